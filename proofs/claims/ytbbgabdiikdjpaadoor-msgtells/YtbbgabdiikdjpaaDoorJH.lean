/-
  The walk of Pair of package pointsmanref1; what RecordAt hands back. Pair of package pointsmanref1 only draws; worlds in which the blocks below B stay; a whole struct stored at once. A law of my own: a region that draws its order: operations that only read and call nothing are taken first, in the order of the text; the others stand in a row, each waiting for those ahead of it. And such a region within a round of a range over a function. A LAW OF MY OWN: a region that draws: those operations that only read are taken first, the rest comes in one of several orders (a tree), each order a goal. A LAW OF MY OWN: a region that draws, in phases: reading operations taken first, an operation that stands alone, reading ones again, and so on; S holds behind every operation. A LAW OF MY OWN: a region that draws, in phases and in several orders: reading operations taken first, an operation that stands alone, one of two, reading ones again, and so on; S holds behind every operation. The walk of RecordAt of package pointsmanref1. Written from its region 7 on by genrefe.py.
-/
import Derived.Test.YtbbgabdiikdjpaaDoorRefAt
import Derived.Test.YtbbgabdiikdjpaaDoorMg
import Derived.Test.YtbbgabdiikdjpaaDoorRrRead
import Derived.Deep.RegionHeld3
import Derived.Deep.Cut
import Derived.Laws.Tables
import Derived.Laws.CopyOwn
import Derived.BigQuiet
import Derived.OrdersHeld
import Derived.OrdersIn
import Derived.RangeFuncCalls
import Derived.Deep.CutRange
namespace Go.Proofs.YtbbgabdiikdjpaaDoor
open Go.RowKit Go.Deep

/-- The pair of bytes at a place. -/
def prN (ms : List Int) (z : Int) : Int := ms.getD z.toNat 0 * 256 + ms.getD (z.toNat + 1) 0

theorem prN_bound {ms : List Int} (hb : ∀ b ∈ ms, 0 ≤ b ∧ b ≤ 255) (z : Int) : 0 ≤ prN ms z ∧ prN ms z ≤ 65535 := by
  unfold prN
  have g0 := getD_byte hb z.toNat
  have g1 := getD_byte hb (z.toNat + 1)
  omega

set_option maxRecDepth 100000 in
theorem rpairAt {x : Option Addr} {c l : Nat} (ms : List Int) (z v : Int) (w : World) (h : Bys w x c ms) (hl : ms.length = l) (h0 : 0 ≤ z) (h1 : z + 2 ≤ (ms.length : Int)) (hv : prN ms z = v) :
    Calls Tryd.prog 22 #[.slice x l c, .int .i64 z] w fun e w' => e = .returned (.int .i64 v) ∧ Below w.heap.size w w' := by
  subst hl
  have hlen : ms.length ≤ 200000000000000 := h.2.1
  obtain ⟨a, rfl⟩ : ∃ a : Nat, z = (a : Int) := ⟨z.toNat, by omega⟩
  have g0 := getD_byte h.2.2.1 a
  have g1 := getD_byte h.2.2.1 (a + 1)
  obtain ⟨b, off, rfl, hlt, q⟩ : ∃ b off, x = some ⟨b, off, none⟩ ∧ b < w.heap.size ∧ ∀ i, i < ms.length → w.cell? ⟨b, off + i, none⟩ = some (.int .u8 (ms.getD i 0)) := by
    rcases h.2.2.2 with hd | hd
    · rw [hd] at h1; simp at h1; omega
    · exact hd
  have q0 := q a (by omega)
  have q1 := q (a + 1) (by omega)
  have HV : Hid (ms.getD a 0 * 256 + ms.getD (a + 1) 0 = v) := hid (by rw [← hv]; unfold prN; rw [Int.toNat_natCast])
  clear q hv h
  generalize ms.getD a 0 = s at *
  generalize ms.getD (a + 1) 0 = t at *
  obtain ⟨g00, g01⟩ := g0
  obtain ⟨g10, g11⟩ := g1
  have i0 : (a : Int) < (ms.length : Int) := by omega
  have i1 : (a : Int) + 1 < (ms.length : Int) := by omega
  go_enter Tryd.func22, Tryd.ntmps22
  go_wp2
  go_quiet (fail)
  go_wp2
  go_ret
  rw [← HV.out]
  exact ⟨rfl, ((Drawn.refl w).more _).below _⟩

theorem Bl.new' (t : TypeId) (w : World) (C : Array Value) : Bl t (w.alloc (.cells C t)) w.heap.size C := Bl.new t w C

def rec8 : Array Value := #[.slice none 0 0, .int .i64 0, .int .i64 0, .int .i64 0, .slice none 0 0, .int .i64 0, .int .i64 0, .int .i64 0]

theorem results_recat (tmps : Array Value) (w : World) (b : Nat) (v0 v1 v2 v3 v4 v5 v6 v7 : Value) (hp : tmps.getD 4 undef = .pointer (some ⟨b, 0, none⟩)) (hb : Bl 69 w b #[v0, v1, v2, v3, v4, v5, v6, v7]) :
    (results Tryd.f24 tmps).run Tryd.prog w = .ok (.agg #[v0, v1, v2, v3, v4, v5, v6, v7]) w := by
  have c0 : w.cell? ⟨b, 0, none⟩ = some v0 := hb.cell (i := 0) rfl
  have c1 : w.cell? ⟨b, 1, none⟩ = some v1 := hb.cell (i := 1) rfl
  have c2 : w.cell? ⟨b, 2, none⟩ = some v2 := hb.cell (i := 2) rfl
  have c3 : w.cell? ⟨b, 3, none⟩ = some v3 := hb.cell (i := 3) rfl
  have c4 : w.cell? ⟨b, 4, none⟩ = some v4 := hb.cell (i := 4) rfl
  have c5 : w.cell? ⟨b, 5, none⟩ = some v5 := hb.cell (i := 5) rfl
  have c6 : w.cell? ⟨b, 6, none⟩ = some v6 := hb.cell (i := 6) rfl
  have c7 : w.cell? ⟨b, 7, none⟩ = some v7 := hb.cell (i := 7) rfl
  have hp' : tmps[4]?.getD undef = .pointer (some ⟨b, 0, none⟩) := by simpa using hp
  simp [results, Tryd.results24, go_sem, hp', c0, c1, c2, c3, c4, c5, c6, c7]

theorem Bl.put8 {t : TypeId} {w : World} {b : Nat} {a0 a1 a2 a3 a4 a5 a6 a7 : Value} (h : Bl t w b #[a0, a1, a2, a3, a4, a5, a6, a7]) (v0 v1 v2 v3 v4 v5 v6 v7 : Value) :
    Bl t ((((((((w.setCell ⟨b, 0, none⟩ v0).setCell ⟨b, 1, none⟩ v1).setCell ⟨b, 2, none⟩ v2).setCell ⟨b, 3, none⟩ v3).setCell ⟨b, 4, none⟩ v4).setCell ⟨b, 5, none⟩ v5).setCell ⟨b, 6, none⟩ v6).setCell ⟨b, 7, none⟩ v7) b #[v0, v1, v2, v3, v4, v5, v6, v7] := by
  have h0 : Bl t _ b #[v0, a1, a2, a3, a4, a5, a6, a7] := h.set 0 v0
  have h1 : Bl t _ b #[v0, v1, a2, a3, a4, a5, a6, a7] := h0.set 1 v1
  have h2 : Bl t _ b #[v0, v1, v2, a3, a4, a5, a6, a7] := h1.set 2 v2
  have h3 : Bl t _ b #[v0, v1, v2, v3, a4, a5, a6, a7] := h2.set 3 v3
  have h4 : Bl t _ b #[v0, v1, v2, v3, v4, a5, a6, a7] := h3.set 4 v4
  have h5 : Bl t _ b #[v0, v1, v2, v3, v4, v5, a6, a7] := h4.set 5 v5
  have h6 : Bl t _ b #[v0, v1, v2, v3, v4, v5, v6, a7] := h5.set 6 v6
  have h7 : Bl t _ b #[v0, v1, v2, v3, v4, v5, v6, v7] := h6.set 7 v7
  exact h7

theorem below_put8 {B : Nat} {w w' : World} {b : Nat} (k : Below B w w') (hb : B ≤ b) (v0 v1 v2 v3 v4 v5 v6 v7 : Value) :
    Below B w ((((((((w'.setCell ⟨b, 0, none⟩ v0).setCell ⟨b, 1, none⟩ v1).setCell ⟨b, 2, none⟩ v2).setCell ⟨b, 3, none⟩ v3).setCell ⟨b, 4, none⟩ v4).setCell ⟨b, 5, none⟩ v5).setCell ⟨b, 6, none⟩ v6).setCell ⟨b, 7, none⟩ v7) :=
  (((((((k.setCell hb v0).setCell hb v1).setCell hb v2).setCell hb v3).setCell hb v4).setCell hb v5).setCell hb v6).setCell hb v7

theorem Strs.far8 {w : World} {x : Option Addr} {c : Nat} {ss : List ByteArray} (h : Strs w x c ss) {b : Nat} (hp : ∀ a, x = some a → ¬ a.block = b) (v0 v1 v2 v3 v4 v5 v6 v7 : Value) :
    Strs ((((((((w.setCell ⟨b, 0, none⟩ v0).setCell ⟨b, 1, none⟩ v1).setCell ⟨b, 2, none⟩ v2).setCell ⟨b, 3, none⟩ v3).setCell ⟨b, 4, none⟩ v4).setCell ⟨b, 5, none⟩ v5).setCell ⟨b, 6, none⟩ v6).setCell ⟨b, 7, none⟩ v7) x c ss :=
  (((((((h.far hp v0).far hp v1).far hp v2).far hp v3).far hp v4).far hp v5).far hp v6).far hp v7

theorem bl_new_d (t : TypeId) (w : World) (C : Array Value) : Bl t (w.drew.alloc (.cells C t)) w.heap.size C := Bl.new t w.drew C

theorem below_da (w : World) (o : Obj) : Below w.heap.size w (w.drew.alloc o) := (Below.drew (Below.refl _ w)).alloc (Nat.le_refl _) _

/-- What RecordAt hands back. -/
def RecPost (X : Nat → Prop) (s : Int × Rn × Nat) (w : World) (e : Ending) (w' : World) : Prop :=
  (s.1 = 0 ∧ ∃ y q z t p, e = .returned (.agg #[.slice y s.2.1.N.length q, .int .i64 s.2.1.ty, .int .i64 s.2.1.cl, .int .i64 s.2.1.ttl, .slice z s.2.1.D.length t, .int .i64 p, .int .i64 (s.2.2 : Int), .int .i64 0]) ∧ Strs w' y q s.2.1.N ∧ (∀ a, y = some a → w.heap.size ≤ a.block) ∧ Bys w z t s.2.1.D ∧ (z = none → t = 0) ∧ (∀ a, z = some a → X a.block) ∧ Below w.heap.size w w') ∨
    (¬ s.1 = 0 ∧ e = .returned (.agg #[.slice none 0 0, .int .i64 0, .int .i64 0, .int .i64 0, .slice none 0 0, .int .i64 0, .int .i64 0, .int .i64 s.1]) ∧ Below w.heap.size w w')

theorem recPost_bad {X : Nat → Prop} {s : Int × Rn × Nat} {w w' : World} {k : Int} (hk : s.1 = k) (h0 : ¬ k = 0) (hb : Below w.heap.size w w') : RecPost X s w (.returned (.agg #[.slice none 0 0, .int .i64 0, .int .i64 0, .int .i64 0, .slice none 0 0, .int .i64 0, .int .i64 0, .int .i64 k])) w' := by
  subst hk
  exact Or.inr ⟨h0, rfl, hb⟩

end Go.Proofs.YtbbgabdiikdjpaaDoor

namespace Go.Proofs.YtbbgabdiikdjpaaDoor
open Go.RowKit Go.Deep

set_option maxRecDepth 100000 in
theorem pair_quiet {x : Option Addr} {c l : Nat} (ms : List Int) (z v : Int) (w : World) (h : Bys w x c ms) (hl : ms.length = l) (h0 : 0 ≤ z) (h1 : z + 2 ≤ (ms.length : Int)) (hv : prN ms z = v) :
    Calls Tryd.prog 22 #[.slice x l c, .int .i64 z] w fun e w' => e = .returned (.int .i64 v) ∧ Drawn w w' := by
  subst hl
  have hlen : ms.length ≤ 200000000000000 := h.2.1
  obtain ⟨a, rfl⟩ : ∃ a : Nat, z = (a : Int) := ⟨z.toNat, by omega⟩
  have g0 := getD_byte h.2.2.1 a
  have g1 := getD_byte h.2.2.1 (a + 1)
  obtain ⟨b, off, rfl, hlt, q⟩ : ∃ b off, x = some ⟨b, off, none⟩ ∧ b < w.heap.size ∧ ∀ i, i < ms.length → w.cell? ⟨b, off + i, none⟩ = some (.int .u8 (ms.getD i 0)) := by
    rcases h.2.2.2 with hd | hd
    · rw [hd] at h1; simp at h1; omega
    · exact hd
  have q0 := q a (by omega)
  have q1 := q (a + 1) (by omega)
  have HV : Hid (ms.getD a 0 * 256 + ms.getD (a + 1) 0 = v) := hid (by rw [← hv]; unfold prN; rw [Int.toNat_natCast])
  clear q hv h
  generalize ms.getD a 0 = s at *
  generalize ms.getD (a + 1) 0 = t at *
  obtain ⟨g00, g01⟩ := g0
  obtain ⟨g10, g11⟩ := g1
  have i0 : (a : Int) < (ms.length : Int) := by omega
  have i1 : (a : Int) + 1 < (ms.length : Int) := by omega
  go_enter Tryd.func22, Tryd.ntmps22
  go_wp2
  go_quiet (fail)
  go_wp2
  go_ret
  rw [← HV.out]
  exact ⟨rfl, (Drawn.refl w).more _⟩

/-- Worlds in which the blocks below B stay. -/
structure OldsW (B : Nat) (w : World) where
  val : World
  keeps : Below B w val

theorem Bl.rowIn {t : TypeId} {w : World} {b : Nat} {C : Array Value} (h : Bl t w b C) (C' : Array Value) : Bl t (w.setRow b C') b C' := setRow_heap w b C C' t _ h

theorem size_record : (Tryd.prog.info? 67).map (·.size) = some 5 := by kernel_rfl

theorem size_rec : (Tryd.prog.info? 69).map (·.size) = some 8 := by kernel_rfl

end Go.Proofs.YtbbgabdiikdjpaaDoor

namespace Go.Proofs.YtbbgabdiikdjpaaDoor
open Go

/-- It calls nothing, starts nothing, and yields a value. -/
def simpleOp : Op → Bool
  | .move _ | .assign _ | .load _ _ | .binOp _ _ _ _ _ | .unOp _ _ _ | .convert _ _ _ | .fieldAddr _ _ _ | .field _ _ _ | .indexAddr _ _ _ | .index _ _ _ | .extract _ _ | .slice _ _ _ _ _ | .lookup _ _ _ _ | .pick _ _ _ | .nilCheck _ => true
  | _ => false

theorem run_value {s : Sem Value} {P : Program} {w w' : World} {n : Next} (h : (do pure (Next.value (← s)) : Sem Next).run P w = .ok n w') : ∃ u, n = .value u := by
  simp only [Sem.run_bind, Sem.run_pure] at h
  cases hs : s.run P w with
  | ok u w1 => rw [hs] at h; simp only [Result.andThen] at h; cases h; exact ⟨u, rfl⟩
  | halt x w1 => rw [hs] at h; simp only [Result.andThen] at h; cases h

theorem simple_value {ρ : Operand → Value} {o : Oper} {P : Program} {w w' : World} {n : Next} (hs : simpleOp o.op = true) (h : (execOp ρ o).run P w = .ok n w') : ∃ u, n = .value u := by
  unfold execOp at h
  cases ho : o.op <;> rw [ho] at hs <;> simp only [simpleOp, Bool.false_eq_true] at hs <;> rw [ho] at h <;> simp only at h
  case move x => cases h; exact ⟨_, rfl⟩
  case assign x => cases h; exact ⟨_, rfl⟩
  case pick c a b =>
    simp only [Sem.run_bind, Sem.run_pure] at h
    cases hs : (asBool (ρ c)).run P w with
    | ok u w1 => rw [hs] at h; simp only [Result.andThen] at h; cases h; exact ⟨_, rfl⟩
    | halt x w1 => rw [hs] at h; simp only [Result.andThen] at h; cases h
  case nilCheck x =>
    split at h
    case h_4 =>
      split at h
      · cases h
      · simp only [Sem.run_bind] at h
        cases h1 : (Sem.run P program w) with
        | halt x w1 => rw [h1] at h; simp only [Result.andThen] at h; cases h
        | ok v1 w1 =>
          rw [h1] at h; simp only [Result.andThen] at h
          split at h
          · rename_i h2
            split at h
            · cases h
            · cases h; exact ⟨_, rfl⟩
          · cases h
      · cases h; exact ⟨_, rfl⟩
    case h_5 => cases h; exact ⟨_, rfl⟩
    all_goals cases h
  all_goals exact run_value h

section
variable {P : Program} {ops : Array Oper} {Q : Exit → Act → World → Prop} {md : Region.Mode} {S : World → Prop}

/-- What a quiet step of such an operation says. -/
theorem yieldsIf_of_quiet {o : Oper} {a : Act} {v : Value} (hs : simpleOp o.op = true) (hw : Region.wanted o (yielded ops a.tmps) = true) (h : ∀ w, S w → o.quietAt P a S w v) : YieldsIf P ops S o v a := by
  refine .inl ⟨hw, fun w hS => ?_⟩
  have hq := h w hS
  unfold Oper.quietAt at hq
  cases hr : (execOp a.eval o).run P w with
  | ok n w' =>
    rw [hr] at hq
    obtain ⟨u, rfl⟩ := simple_value hs hr
    simp only [Oper.quietUpon] at hq
    obtain ⟨rfl, rfl⟩ := hq
    rfl
  | halt x w' => rw [hr] at hq; simp only [Oper.quietUpon] at hq

/-- Whatever order is picked from here on, and S holds behind each operation numbered below brk. -/
def anyB (P : Program) (md : Region.Mode) (ops : Array Oper) (Q : Exit → Act → World → Prop) (S : World → Prop) (brk : Nat) : Nat → Array Bool → Act → World → Prop
  | 0, listed, a, w => Region.ready md ops listed = [] ∧ Q .normal a w
  | fuel + 1, listed, a, w =>
    (Region.ready md ops listed = [] → Q .normal a w) ∧
    ∀ i ∈ Region.ready md ops listed, wpOp P ops Q i (fun a' w' => (i < brk → S w') ∧ anyB P md ops Q S brk fuel (listed.setIfInBounds i true) a' w') a w

theorem wpAny_of_anyB {brk : Nat} : ∀ (fuel : Nat) (listed : Array Bool) (a : Act) (w : World), anyB P md ops Q S brk fuel listed a w → wpAny P md ops Q fuel listed a w
  | 0, _, _, _, h => h
  | fuel + 1, _, _, _, h => ⟨h.1, fun i hi => wpOp_mono (fun a' w' h' => wpAny_of_anyB fuel _ a' w' h'.2) (h.2 i hi)⟩

theorem anyB_first {brk : Nat} {i : Nat} {oi : Oper} {v : Value} (hi : ops[i]? = some oi) (hsel : ∀ (j : Nat) (o : Oper) cs b, ops[j]? = some o → o.op ≠ .select cs b)
    (hQ : ∀ c a w, Q (.panic c) (a.put oi.dst v) w → Q (.panic c) a w)
    (hib : i < brk) (hbrk : ∀ (j : Nat) (oj : Oper), ops[j]? = some oj → ¬ j < brk → ∃ e ∈ oj.after, Region.binds md e = true ∧ e.on = i) :
    ∀ (fuel : Nat) (listed : Array Bool) (a : Act) (w : World), listed.size = ops.size →
      (∀ j oj, ops[j]? = some oj → j ≠ i → listed.getD j true = false → (∀ e ∈ oj.after, Region.binds md e = true → e.on ≠ i) → oi.apart ops oj = true) →
      i ∈ Region.ready md ops listed → YieldsIf P ops S oi v a → S w →
      anyB P md ops Q S brk fuel (listed.setIfInBounds i true) (a.put oi.dst v) w → anyB P md ops Q S brk (fuel + 1) listed a w := by
  intro fuel
  induction fuel with
  | zero =>
    intro listed a w hls _ hr hy hS H
    refine ⟨fun h => (by rw [h] at hr; cases hr), fun j hj => ?_⟩
    by_cases hji : j = i
    · subst hji; exact hy.wpOp hi hS ⟨fun _ => hS, H⟩
    · have := ready_mono hj hji
      rw [H.1] at this
      cases this
  | succ fuel ih =>
    intro listed a w hls hfree hr hy hS H
    refine ⟨fun h => (by rw [h] at hr; cases hr), fun j hj => ?_⟩
    by_cases hji : j = i
    · subst hji; exact hy.wpOp hi hS ⟨fun _ => hS, H⟩
    · have h1 := H.2 j (ready_mono hj hji)
      obtain ⟨hjun, oj, hoj, hall⟩ := mem_ready.1 hj
      have hiun : listed.getD i false = false := by
        have h0 := (mem_ready.1 hr).1
        rcases Nat.lt_or_ge i listed.size with h' | h'
        · simp [h'] at h0 ⊢; exact h0
        · simp [Array.getD_eq_getD_getElem?, Array.getElem?_eq_none h']
      have hjb : j < brk := by
        rcases Nat.lt_or_ge j brk with q | q
        · exact q
        · obtain ⟨e, he, hb, hon⟩ := hbrk j oj hoj (by omega)
          have := hall e he hb
          rw [hon, hiun] at this
          cases this
      have hnot : ∀ e ∈ oj.after, Region.binds md e = true → e.on ≠ i := fun e he hb heq => by
        have h1 := hall e he hb
        rw [heq, hiun] at h1
        cases h1
      have h2 := wpOp_putIf hoj (hfree j oj hoj hji hjun hnot) (fun cs b => hsel i oi cs b hi) (fun cs b => hsel j oj cs b hoj) hQ hy h1
      have hfree' : ∀ k ok, ops[k]? = some ok → k ≠ i → (listed.setIfInBounds j true).getD k true = false →
          (∀ e ∈ ok.after, Region.binds md e = true → e.on ≠ i) → oi.apart ops ok = true := fun k ok hk hki hun hno => by
        refine hfree k ok hk hki ?_ hno
        by_cases hjk : j = k
        · subst hjk; exact hjun
        · rw [getD_set_ne true hjk] at hun; exact hun
      refine wpOp_mono (fun a' w' h3 => ⟨h3.2.1, ih (listed.setIfInBounds j true) a' w' (by simp [hls]) hfree' (ready_mono hr (Ne.symm hji)) h3.1 (h3.2.1 hjb) ?_⟩) h2
      rw [Array.setIfInBounds_comm _ _ hji]
      exact h3.2.2

/-- The rest in a row. -/
def rowB (P : Program) (Q : Exit → Act → World → Prop) (S : World → Prop) (brk : Nat) : Nat → List Oper → Act → World → Prop
  | _, [], a, w => Q .normal a w
  | k, o :: rest, a, w => o.wp P a w (fun a' w' => (k < brk → S w') ∧ rowB P Q S brk (k + 1) rest a' w') Q

/-- The rest comes one by one. -/
def rowsB (md : Region.Mode) (ops : Array Oper) : Nat → Nat → Array Bool → Bool
  | 0, _, listed => (Region.ready md ops listed).isEmpty
  | n + 1, k, listed => (Region.ready md ops listed == [k]) && (match ops[k]? with | some o => o.guard.isNone | none => false) && rowsB md ops n (k + 1) (listed.setIfInBounds k true)

/-- So many operations may be taken first, each free; those behind them come one by one. -/
def tailB (md : Region.Mode) (ops : Array Oper) : Nat → Nat → Nat → Array Bool → Bool
  | 0, n, k, listed => rowsB md ops n k listed
  | m + 1, n, k, listed => (Region.ready md ops listed).contains k && Region.free md ops listed k && (match ops[k]? with | some o => simpleOp o.op | none => false) && tailB md ops m n (k + 1) (listed.setIfInBounds k true)

theorem anyB_row {brk : Nat} : ∀ (rest : List Oper) (k : Nat) (listed : Array Bool) (a : Act) (w : World), (∀ j, rest[j]? = ops[k + j]?) →
    rowsB md ops rest.length k listed = true → rowB P Q S brk k rest a w → anyB P md ops Q S brk rest.length listed a w
  | [], _, _, _, _, _, hB, h => ⟨by simpa [rowsB] using hB, h⟩
  | o :: rest, k, listed, a, w, hl, hB, h => by
    have h0 : ops[k]? = some o := by simpa using (hl 0).symm
    simp only [List.length_cons, rowsB, Bool.and_eq_true, h0] at hB
    obtain ⟨⟨hr, hg⟩, hB'⟩ := hB
    have hr' : Region.ready md ops listed = [k] := by simpa using hr
    refine ⟨fun q => (by rw [hr'] at q; cases q), fun i hi => ?_⟩
    rw [hr'] at hi
    obtain rfl : i = k := by simpa using hi
    unfold wpOp
    simp only [h0]
    have hwant : Region.wanted o (yielded ops a.tmps) = true := by
      have : o.guard = none := by simpa using hg
      simp [Region.wanted, this]
    simp only [hwant, if_true]
    exact .inl (Oper.wp_mono (fun a' w' hq => ⟨hq.1, anyB_row rest (i + 1) _ a' w' (fun j => by have := hl (j + 1); simpa [Nat.add_assoc, Nat.add_comm 1 j] using this) hB' hq.2⟩) h)

theorem anyB_still {brk : Nat} {K : Act → Prop} (hs : Region.noSelect ops = true) (hQ : ∀ c a a' w, Q (.panic c) a w → Q (.panic c) a' w)
    (rest : List Oper) :
    ∀ (pre : List Oper) (k : Nat) (listed : Array Bool) (a : Act) (w : World), (∀ j, (pre ++ rest)[j]? = ops[k + j]?) → listed.size = ops.size → k + pre.length ≤ brk →
      (∀ i, i < brk → ∀ (j : Nat) (oj : Oper), ops[j]? = some oj → ¬ j < brk → ∃ e ∈ oj.after, Region.binds md e = true ∧ e.on = i) →
      tailB md ops pre.length rest.length k listed = true → S w → wpQuiet P ops S K pre a → (∀ a', K a' → rowB P Q S brk (k + pre.length) rest a' w) →
      anyB P md ops Q S brk (pre ++ rest).length listed a w
  | [], k, listed, a, w, hl, _, _, _, hB, _, h, hK => anyB_row rest k listed a w hl hB (hK a h)
  | o :: pre, k, listed, a, w, hl, hls, hbk, hbrk, hB, hS, h, hK => by
    have h0 : ops[k]? = some o := by simpa using (hl 0).symm
    simp only [List.length_cons, tailB, Bool.and_eq_true, h0] at hB
    obtain ⟨⟨⟨hr, hf⟩, hso⟩, hB'⟩ := hB
    simp only [List.length_cons] at hbk hK
    have hy : ∃ v, YieldsIf P ops S o v a ∧ wpQuiet P ops S K pre (a.put o.dst v) := by
      unfold wpQuiet at h
      by_cases hw : Region.wanted o (yielded ops a.tmps) = true
      · rw [if_pos hw] at h
        obtain ⟨v, hv, hn⟩ := h
        exact ⟨v, yieldsIf_of_quiet hso hw hv, hn⟩
      · rw [if_neg hw] at h
        exact ⟨undef, .inr ⟨by simpa using hw, rfl⟩, h⟩
    obtain ⟨v, hy, hn⟩ := hy
    refine anyB_first h0 (Region.noSelect_spec hs) (fun c a' w' q => hQ c _ _ w' q) (by omega) (hbrk k (by omega)) _ listed a w hls (Region.free_spec h0 hf) (by simpa using hr) hy hS ?_
    exact anyB_still hs hQ rest pre (k + 1) _ _ w (fun j => by have := hl (j + 1); simpa [Nat.add_assoc, Nat.add_comm 1 j] using this) (by simp [hls]) (by omega) hbrk hB' hS hn (fun a' ha => by have := hK a' ha; rwa [show k + (pre.length + 1) = k + 1 + pre.length from by omega] at this)

/-- The last operation alone waits for all others; of the rest so many are taken first. -/
def tailsB (l : List Oper) (m : Nat) : Bool :=
  decide (m < l.length) && Region.noSelect l.toArray && tailB .any l.toArray m (l.length - m) 0 (Array.replicate l.length false) &&
    (match l.getLast? with | some o => (List.range (l.length - 1)).all fun j => o.after.any fun e => Region.binds .any e && e.on == j | none => false)

/-- A run that does not panic. -/
def Calm (Q : Exit → Act → World → Prop) : Exit → Act → World → Prop
  | .panic _, _, _ => False
  | e, a, w => Q e a w

theorem tail_any {l : List Oper} (m : Nat) {a : Act} {w : World} (S : World → Prop) (hB : tailsB l m = true) (hS : S w)
    (h : wpQuiet P l.toArray S (fun a' => rowB P (Calm Q) S (l.length - 1) m (l.drop m) a' w) (l.take m) a) : wpAny P .any l.toArray (Calm Q) l.length (Array.replicate l.length false) a w := by
  unfold tailsB at hB
  simp only [Bool.and_eq_true, decide_eq_true_eq] at hB
  obtain ⟨⟨⟨hm, hs⟩, hT⟩, hL⟩ := hB
  have hlen : (l.take m).length = m := by simp; omega
  have hlen2 : (l.drop m).length = l.length - m := by simp
  have key := anyB_still (P := P) (ops := l.toArray) (Q := Calm Q) (md := .any) (S := S) (brk := l.length - 1) (K := fun a' => rowB P (Calm Q) S (l.length - 1) m (l.drop m) a' w) hs (fun c a a' w q => q.elim) (l.drop m) (l.take m) 0 (Array.replicate l.length false) a w
    (fun j => by simp) (by simp) (by rw [hlen]; omega)
    (fun i hi j oj hj hjb => by
      have hjl : j < l.length := by
        simp only [List.getElem?_toArray] at hj
        exact (List.getElem?_eq_some_iff.1 hj).1
      obtain rfl : j = l.length - 1 := by omega
      have hlast : l.getLast? = some oj := by rw [List.getLast?_eq_getElem?]; simpa using hj
      rw [hlast] at hL
      simp only [List.all_eq_true, List.mem_range] at hL
      have := hL i hi
      rw [Array.any_eq_true'] at this
      obtain ⟨e, he, h5⟩ := this
      simp only [Bool.and_eq_true, beq_iff_eq] at h5
      exact ⟨e, he, h5.1, h5.2⟩)
    (by rw [hlen, hlen2]; exact hT) hS h (fun a' ha => by rw [hlen, Nat.zero_add]; exact ha)
  have := wpAny_of_anyB _ _ _ _ key
  rwa [List.take_append_drop] at this

theorem calm_imp (e : Exit) (a : Act) (w : World) (h : Calm Q e a w) : Q e a w := by cases e <;> first | exact h | exact h.elim

/-- THE LAW. -/
theorem wp_region_tail {l : List Oper} (m : Nat) {id : Nat} {a : Act} {w : World} (S : World → Prop) (hm : P.follows .mixedOrders = true) (hB : tailsB l m = true) (hS : S w.drew)
    (h : wpQuiet P l.toArray S (fun a' => rowB P (Calm Q) S (l.length - 1) m (l.drop m) a' w.drew) (l.take m) a) : (Code.region id l.toArray true).wp P Q a w := by
  refine wp_mono ?_ calm_imp
  refine wp_region_any hm ?_
  have := tail_any (Q := Q) m S hB hS h
  simpa using this

/-! ### within a round -/

/-- It defers nothing, and is no range over a function's mark. -/
def plainB (ops : Array Oper) : Bool := ops.all fun o => match o.op with | .defer _ => false | _ => true

theorem opIn_of_wp {o : Oper} {l n : Nat} {a : Act} {w : World} {K : Act → World → Prop} (hd : ∀ c, o.op ≠ .defer c) (h : o.wp P a w K Q) : o.wpIn (Fence.wide.inRound l) n P a w K Q := by
  refine ⟨fun _ _ => trivial, ?_⟩
  have he : o.semAt (Fence.wide.inRound l).round a.eval = execOp a.eval o := Oper.semAt_eq _ _ _ hd
  rw [he]
  unfold Oper.wp at h
  generalize (execOp a.eval o).run P w = r at *
  cases r with
  | ok x w' =>
    cases x <;> simp only [Oper.upon] at h <;> simp only [Oper.uponIn]
    case value u => exact h
    case skip => exact h
    case defer d => exact h
    case enter f args => exact ⟨fun q => (by cases q), CallsIn.inRound l (callsIn_wide.2 h)⟩
    case row r args =>
      refine ⟨fun q => (by cases q), fun c cs _ => ?_⟩
      obtain ⟨v, w'', hR, hst⟩ := h c cs
      exact ⟨v, w'', hR, stepsIn_wide.2 hst⟩
  | halt x w' =>
    cases x <;> simp only [Oper.upon] at h <;> simp only [Oper.uponIn]
    case panic v => exact h

theorem anyIn_of_any {l n : Nat} (hp : plainB ops = true) (hlo : ¬ LetsOut Q) : ∀ (fuel : Nat) (listed : Array Bool) (a : Act) (w : World), wpAny P md ops Q fuel listed a w → wpAnyIn (Fence.wide.inRound l) n P md ops Q fuel listed a w
  | 0, _, _, _, h => h
  | fuel + 1, listed, a, w, h => ⟨h.1, fun i hi => by
      have h2 := h.2 i hi
      unfold wpOp at h2
      unfold wpOpIn
      cases ho : ops[i]? with
      | none => simp only [ho] at h2 ⊢; exact anyIn_of_any hp hlo fuel _ a w h2
      | some o =>
        simp only [ho] at h2 ⊢
        by_cases hw : Region.wanted o (yielded ops a.tmps) = true
        · simp only [hw, if_true] at h2 ⊢
          rcases h2 with h2 | h2
          · refine opIn_of_wp (fun c q => ?_) (Oper.wp_mono (fun a' w' q => anyIn_of_any hp hlo fuel _ a' w' q) h2)
            unfold plainB at hp
            rw [Array.all_eq_true'] at hp
            have := hp o (Array.mem_of_getElem? ho)
            rw [q] at this
            cases this
          · exact absurd h2.2 hlo
        · simp only [hw] at h2 ⊢
          exact ⟨fun _ _ => trivial, anyIn_of_any hp hlo fuel _ _ w h2⟩⟩

/-- THE LAW WITHIN A ROUND. -/
theorem wpIn_region_tail {l : List Oper} (m : Nat) {id r n : Nat} {a : Act} {w : World} (S : World → Prop) (hm : P.follows .mixedOrders = true) (hB : tailsB l m = true) (hp : plainB l.toArray = true) (hlo : ∀ a w, ¬ Q .outgrown a w) (hS : S w.drew)
    (h : wpQuiet P l.toArray S (fun a' => rowB P (Calm Q) S (l.length - 1) m (l.drop m) a' w.drew) (l.take m) a) : (Code.region id l.toArray true).wpIn (Fence.wide.inRound r) n P Q a w := by
  refine wpIn_mono ?_ calm_imp
  refine wpIn_region_any hm ?_
  have := anyIn_of_any (Q := Calm Q) (l := r) (n := n) hp (fun ⟨a, w, q⟩ => hlo a w q) _ _ _ _ (tail_any (Q := Q) m S hB hS h)
  simpa using this

end

/-! ### the same, whichever operations are picked to be taken first -/

section
variable {P : Program} {ops : Array Oper} {Q : Exit → Act → World → Prop} {md : Region.Mode} {S : World → Prop}

/-- The rest in a row, each with its number. -/
def rowL (P : Program) (Q : Exit → Act → World → Prop) (S : World → Prop) (brk : Nat) : List (Nat × Oper) → Act → World → Prop
  | [], a, w => Q .normal a w
  | x :: rest, a, w => x.2.wp P a w (fun a' w' => (x.1 < brk → S w') ∧ rowL P Q S brk rest a' w') Q

def restL (md : Region.Mode) (ops : Array Oper) : List Nat → Array Bool → Bool
  | [], listed => (Region.ready md ops listed).isEmpty
  | k :: rest, listed => (Region.ready md ops listed == [k]) && (match ops[k]? with | some o => o.guard.isNone | none => false) && restL md ops rest (listed.setIfInBounds k true)

def pickL (md : Region.Mode) (ops : Array Oper) (brk : Nat) (rest : List Nat) : List Nat → Array Bool → Bool
  | [], listed => restL md ops rest listed
  | k :: pre, listed => decide (k < brk) && (Region.ready md ops listed).contains k && Region.free md ops listed k && (match ops[k]? with | some o => simpleOp o.op | none => false) && pickL md ops brk rest pre (listed.setIfInBounds k true)

theorem anyB_restL {brk : Nat} : ∀ (idx : List Nat) (rest : List (Nat × Oper)) (listed : Array Bool) (a : Act) (w : World), idx.map (fun k => ops[k]?.map (fun o => (k, o))) = rest.map some →
    restL md ops idx listed = true → rowL P Q S brk rest a w → anyB P md ops Q S brk rest.length listed a w
  | [], [], _, _, _, _, hB, h => ⟨by simpa [restL] using hB, h⟩
  | [], _ :: _, _, _, _, he, _, _ => by simp at he
  | _ :: _, [], _, _, _, he, _, _ => by simp at he
  | k :: idx, (k', o) :: rest, listed, a, w, he, hB, h => by
    simp only [List.map_cons, List.cons.injEq] at he
    obtain ⟨he1, he2⟩ := he
    cases h0 : ops[k]? with
    | none => rw [h0] at he1; cases he1
    | some o' =>
      rw [h0] at he1
      simp only [Option.map_some, Option.some.injEq, Prod.mk.injEq] at he1
      obtain ⟨rfl, rfl⟩ := he1
      simp only [restL, Bool.and_eq_true, h0] at hB
      obtain ⟨⟨hr, hg⟩, hB'⟩ := hB
      have hr' : Region.ready md ops listed = [k] := by simpa using hr
      refine ⟨fun q => (by rw [hr'] at q; cases q), fun i hi => ?_⟩
      rw [hr'] at hi
      obtain rfl : i = k := by simpa using hi
      unfold wpOp
      simp only [h0]
      have hwant : Region.wanted o' (yielded ops a.tmps) = true := by
        have : o'.guard = none := by simpa using hg
        simp [Region.wanted, this]
      simp only [hwant, if_true]
      exact .inl (Oper.wp_mono (fun a' w' hq => ⟨hq.1, anyB_restL idx rest _ a' w' he2 hB' hq.2⟩) h)

theorem anyB_pickL {brk : Nat} {K : Act → Prop} (hs : Region.noSelect ops = true) (hQ : ∀ c a a' w, Q (.panic c) a w → Q (.panic c) a' w)
    (ridx : List Nat) (rest : List (Nat × Oper)) (hre : ridx.map (fun k => ops[k]?.map (fun o => (k, o))) = rest.map some)
    (hbrk : ∀ i, i < brk → ∀ (j : Nat) (oj : Oper), ops[j]? = some oj → ¬ j < brk → ∃ e ∈ oj.after, Region.binds md e = true ∧ e.on = i) :
    ∀ (idx : List Nat) (pre : List Oper) (listed : Array Bool) (a : Act) (w : World), idx.map (fun k => ops[k]?) = pre.map some → listed.size = ops.size →
      pickL md ops brk ridx idx listed = true → S w → wpQuiet P ops S K pre a → (∀ a', K a' → rowL P Q S brk rest a' w) →
      anyB P md ops Q S brk (pre.length + rest.length) listed a w
  | [], [], listed, a, w, _, _, hB, _, h, hK => by
    rw [List.length_nil, Nat.zero_add]
    exact anyB_restL ridx rest listed a w hre hB (hK a h)
  | [], _ :: _, _, _, _, he, _, _, _, _, _ => by simp at he
  | _ :: _, [], _, _, _, he, _, _, _, _, _ => by simp at he
  | k :: idx, o :: pre, listed, a, w, he, hls, hB, hS, h, hK => by
    simp only [List.map_cons, List.cons.injEq] at he
    obtain ⟨h0, he2⟩ := he
    simp only [pickL, Bool.and_eq_true, h0, decide_eq_true_eq] at hB
    obtain ⟨⟨⟨⟨hkb, hr⟩, hf⟩, hso⟩, hB'⟩ := hB
    have hy : ∃ v, YieldsIf P ops S o v a ∧ wpQuiet P ops S K pre (a.put o.dst v) := by
      unfold wpQuiet at h
      by_cases hw : Region.wanted o (yielded ops a.tmps) = true
      · rw [if_pos hw] at h
        obtain ⟨v, hv, hn⟩ := h
        exact ⟨v, yieldsIf_of_quiet hso hw hv, hn⟩
      · rw [if_neg hw] at h
        exact ⟨undef, .inr ⟨by simpa using hw, rfl⟩, h⟩
    obtain ⟨v, hy, hn⟩ := hy
    rw [List.length_cons, show pre.length + 1 + rest.length = (pre.length + rest.length) + 1 from by omega]
    refine anyB_first h0 (Region.noSelect_spec hs) (fun c a' w' q => hQ c _ _ w' q) hkb (hbrk k hkb) _ listed a w hls (Region.free_spec h0 hf) (by simpa using hr) hy hS ?_
    exact anyB_pickL hs hQ ridx rest hre hbrk idx pre _ _ w he2 (by simp [hls]) hB' hS hn hK

/-- The last operation alone waits for all others; these are taken first, those come in a row. -/
def picksB (l : List Oper) (idx ridx : List Nat) : Bool :=
  Region.noSelect l.toArray && pickL .any l.toArray (l.length - 1) ridx idx (Array.replicate l.length false) && decide (idx.length + ridx.length = l.length) &&
    (match l.getLast? with | some o => (List.range (l.length - 1)).all fun j => o.after.any fun e => Region.binds .any e && e.on == j | none => false)

theorem pick_any {l : List Oper} (idx ridx : List Nat) {pre : List Oper} {rest : List (Nat × Oper)} {a : Act} {w : World} (S : World → Prop) (hpre : idx.map (fun k => l.toArray[k]?) = pre.map some) (hre : ridx.map (fun k => l.toArray[k]?.map (fun o => (k, o))) = rest.map some)
    (hB : picksB l idx ridx = true) (hS : S w)
    (h : wpQuiet P l.toArray S (fun a' => rowL P (Calm Q) S (l.length - 1) rest a' w) pre a) : wpAny P .any l.toArray (Calm Q) l.length (Array.replicate l.length false) a w := by
  unfold picksB at hB
  simp only [Bool.and_eq_true, decide_eq_true_eq] at hB
  obtain ⟨⟨⟨hs, hT⟩, hlen⟩, hL⟩ := hB
  have e1 : pre.length = idx.length := by have := congrArg List.length hpre; simpa using this.symm
  have e2 : rest.length = ridx.length := by have := congrArg List.length hre; simpa using this.symm
  have key := anyB_pickL (P := P) (ops := l.toArray) (Q := Calm Q) (md := .any) (S := S) (brk := l.length - 1) (K := fun a' => rowL P (Calm Q) S (l.length - 1) rest a' w) hs (fun c a a' w q => q.elim) ridx rest hre
    (fun i hi j oj hj hjb => by
      have hjl : j < l.length := by
        simp only [List.getElem?_toArray] at hj
        exact (List.getElem?_eq_some_iff.1 hj).1
      obtain rfl : j = l.length - 1 := by omega
      have hlast : l.getLast? = some oj := by rw [List.getLast?_eq_getElem?]; simpa using hj
      rw [hlast] at hL
      simp only [List.all_eq_true, List.mem_range] at hL
      have := hL i hi
      rw [Array.any_eq_true'] at this
      obtain ⟨e, he, h5⟩ := this
      simp only [Bool.and_eq_true, beq_iff_eq] at h5
      exact ⟨e, he, h5.1, h5.2⟩)
    idx pre (Array.replicate l.length false) a w hpre (by simp) hT hS h (fun a' ha => ha)
  have := wpAny_of_anyB _ _ _ _ key
  rwa [e1, e2, hlen] at this

theorem pre_some {l : List Oper} : ∀ {idx : List Nat}, idx.all (fun k => decide (k < l.length)) = true → idx.map (fun k => l.toArray[k]?) = (idx.filterMap (fun k => l[k]?)).map some
  | [], _ => rfl
  | k :: idx, h => by
    simp only [List.all_cons, Bool.and_eq_true, decide_eq_true_eq] at h
    rw [List.map_cons, pre_some h.2, List.filterMap_cons, List.getElem?_toArray, List.getElem?_eq_getElem h.1]
    rfl
theorem rest_some {l : List Oper} : ∀ {idx : List Nat}, idx.all (fun k => decide (k < l.length)) = true → idx.map (fun k => l.toArray[k]?.map (fun o => (k, o))) = (idx.filterMap (fun k => l[k]?.map (fun o => (k, o)))).map some
  | [], _ => rfl
  | k :: idx, h => by
    simp only [List.all_cons, Bool.and_eq_true, decide_eq_true_eq] at h
    rw [List.map_cons, rest_some h.2, List.filterMap_cons, List.getElem?_toArray, List.getElem?_eq_getElem h.1]
    rfl

/-- THE LAW. -/
theorem wp_region_pick {l : List Oper} (idx ridx : List Nat) {id : Nat} {a : Act} {w : World} (S : World → Prop) (hm : P.follows .mixedOrders = true) (hi : (idx ++ ridx).all (fun k => decide (k < l.length)) = true)
    (hB : picksB l idx ridx = true) (hS : S w.drew)
    (h : wpQuiet P l.toArray S (fun a' => rowL P (Calm Q) S (l.length - 1) (ridx.filterMap (fun k => l[k]?.map (fun o => (k, o)))) a' w.drew) (idx.filterMap (fun k => l[k]?)) a) : (Code.region id l.toArray true).wp P Q a w := by
  refine wp_mono ?_ calm_imp
  refine wp_region_any hm ?_
  rw [List.all_append, Bool.and_eq_true] at hi
  have := pick_any (Q := Q) idx ridx S (pre_some hi.1) (rest_some hi.2) hB hS h
  simpa using this

/-- THE LAW WITHIN A ROUND. -/
theorem wpIn_region_pick {l : List Oper} (idx ridx : List Nat) {id r n : Nat} {a : Act} {w : World} (S : World → Prop) (hm : P.follows .mixedOrders = true) (hi : (idx ++ ridx).all (fun k => decide (k < l.length)) = true)
    (hB : picksB l idx ridx = true) (hp : plainB l.toArray = true) (hlo : ∀ a w, ¬ Q .outgrown a w) (hS : S w.drew)
    (h : wpQuiet P l.toArray S (fun a' => rowL P (Calm Q) S (l.length - 1) (ridx.filterMap (fun k => l[k]?.map (fun o => (k, o)))) a' w.drew) (idx.filterMap (fun k => l[k]?)) a) : (Code.region id l.toArray true).wpIn (Fence.wide.inRound r) n P Q a w := by
  refine wpIn_mono ?_ calm_imp
  refine wpIn_region_any hm ?_
  rw [List.all_append, Bool.and_eq_true] at hi
  have := anyIn_of_any (Q := Calm Q) (l := r) (n := n) hp (fun ⟨a, w, q⟩ => hlo a w q) _ _ _ _ (pick_any (Q := Q) idx ridx S (pre_some hi.1) (rest_some hi.2) hB hS h)
  simpa using this

theorem rowL_step {brk k : Nat} {o : Oper} {rest : List (Nat × Oper)} {a : Act} {w : World}
    (h : ∀ (K : Act → World → Prop) (Q' : Exit → Act → World → Prop), (∀ a' w', (k < brk → S w') → rowL P Q S brk rest a' w' → K a' w') → o.wp P a w K Q') : rowL P Q S brk ((k, o) :: rest) a w :=
  h _ _ fun _ _ h1 h2 => ⟨h1, h2⟩
theorem rowL_nil {brk : Nat} {a : Act} {w : World} (h : Q .normal a w) : rowL P (Calm Q) S brk [] a w := h

end

theorem rowB_step {P : Program} {Q : Exit → Act → World → Prop} {S : World → Prop} {brk k : Nat} {o : Oper} {rest : List Oper} {a : Act} {w : World}
    (h : ∀ (K : Act → World → Prop) (Q' : Exit → Act → World → Prop), (∀ a' w', (k < brk → S w') → rowB P Q S brk (k + 1) rest a' w' → K a' w') → o.wp P a w K Q') : rowB P Q S brk k (o :: rest) a w :=
  h _ _ fun _ _ h1 h2 => ⟨h1, h2⟩

theorem rowB_nil {P : Program} {Q : Exit → Act → World → Prop} {S : World → Prop} {brk k : Nat} {a : Act} {w : World} (h : Q .normal a w) : rowB P (Calm Q) S brk k [] a w := h

/-- A world in which these cells hold these values. -/
structure Keep (L : List (Addr × Value)) where
  val : World
  cells : ∀ e ∈ L, val.cell? e.1 = some e.2

theorem Keep.some {L : List (Addr × Value)} (w : World) (h : ∀ e ∈ L, w.cell? e.1 = some e.2) : Nonempty (Keep L) := ⟨⟨w, h⟩⟩

end Go.Proofs.YtbbgabdiikdjpaaDoor

namespace Go.Proofs.YtbbgabdiikdjpaaDoor
open Go

inductive Tr where
  | nil : Tr
  | one (k : Nat) (t : Tr) : Tr
  | two (k1 : Nat) (t1 : Tr) (k2 : Nat) (t2 : Tr) : Tr

def Tr.depth : Tr → Nat
  | .nil => 0
  | .one _ t => t.depth + 1
  | .two _ t _ _ => t.depth + 1

section
variable {P : Program} {ops : Array Oper} {Q : Exit → Act → World → Prop} {md : Region.Mode} {S : World → Prop}

def treeB (md : Region.Mode) (ops : Array Oper) : Tr → Array Bool → Bool
  | .nil, listed => (Region.ready md ops listed).isEmpty
  | .one k t, listed => (Region.ready md ops listed == [k]) && treeB md ops t (listed.setIfInBounds k true)
  | .two k1 t1 k2 t2, listed => (Region.ready md ops listed == [k1, k2]) && (t1.depth == t2.depth) && treeB md ops t1 (listed.setIfInBounds k1 true) && treeB md ops t2 (listed.setIfInBounds k2 true)

def stepL (P : Program) (l : List Oper) (Q : Exit → Act → World → Prop) (S : World → Prop) (brk k : Nat) (K : Act → World → Prop) (a : Act) (w : World) : Prop :=
  match l[k]? with | some o => Region.wanted o (yielded l.toArray a.tmps) = true ∧ o.wp P a w (fun a' w' => (k < brk → S w') ∧ K a' w') Q | none => False

/-- What is asked of the rest, an order after the other. -/
def treeL (P : Program) (l : List Oper) (Q : Exit → Act → World → Prop) (S : World → Prop) (brk : Nat) : Tr → Act → World → Prop
  | .nil, a, w => Q .normal a w
  | .one k t, a, w => stepL P l Q S brk k (treeL P l Q S brk t) a w
  | .two k1 t1 k2 t2, a, w => stepL P l Q S brk k1 (treeL P l Q S brk t1) a w ∧ stepL P l Q S brk k2 (treeL P l Q S brk t2) a w

theorem wpOp_stepL {l : List Oper} {brk k m : Nat} {listed : Array Bool} {K : Act → World → Prop} {a : Act} {w : World} (h : stepL P l Q S brk k K a w)
    (hK : ∀ a' w', K a' w' → anyB P md l.toArray Q S brk m (listed.setIfInBounds k true) a' w') :
    wpOp P l.toArray Q k (fun a' w' => (k < brk → S w') ∧ anyB P md l.toArray Q S brk m (listed.setIfInBounds k true) a' w') a w := by
  unfold stepL at h
  unfold wpOp
  rw [List.getElem?_toArray]
  cases h0 : l[k]? with
  | none => rw [h0] at h; exact h.elim
  | some o =>
    rw [h0] at h
    obtain ⟨hwant, h⟩ := h
    simp only [hwant, if_true]
    exact .inl (Oper.wp_mono (fun a' w' hq => ⟨hq.1, hK a' w' hq.2⟩) h)

theorem anyB_tree {l : List Oper} {brk : Nat} : ∀ (t : Tr) (listed : Array Bool) (a : Act) (w : World), treeB md l.toArray t listed = true → treeL P l Q S brk t a w → anyB P md l.toArray Q S brk t.depth listed a w
  | .nil, listed, a, w, hB, h => ⟨by simpa [treeB] using hB, h⟩
  | .one k t, listed, a, w, hB, h => by
    simp only [treeB, Bool.and_eq_true] at hB
    obtain ⟨hr, hB'⟩ := hB
    have hr' : Region.ready md l.toArray listed = [k] := by simpa using hr
    refine ⟨fun q => (by rw [hr'] at q; cases q), fun i hi => ?_⟩
    rw [hr'] at hi
    obtain rfl : i = k := by simpa using hi
    exact wpOp_stepL h (fun a' w' h' => anyB_tree t _ a' w' hB' h')
  | .two k1 t1 k2 t2, listed, a, w, hB, h => by
    simp only [treeB, Bool.and_eq_true] at hB
    obtain ⟨⟨⟨hr, hd⟩, hB1⟩, hB2⟩ := hB
    have hr' : Region.ready md l.toArray listed = [k1, k2] := by simpa using hr
    have hd' : t1.depth = t2.depth := by simpa using hd
    refine ⟨fun q => (by rw [hr'] at q; cases q), fun i hi => ?_⟩
    rw [hr'] at hi
    have hi' : i = k1 ∨ i = k2 := by simpa using hi
    rcases hi' with rfl | rfl
    · exact wpOp_stepL h.1 (fun a' w' h' => anyB_tree t1 _ a' w' hB1 h')
    · exact wpOp_stepL h.2 (fun a' w' h' => by have := anyB_tree t2 _ a' w' hB2 h'; rw [← hd'] at this; exact this)

def pickT (md : Region.Mode) (ops : Array Oper) (brk : Nat) (t : Tr) : List Nat → Array Bool → Bool
  | [], listed => treeB md ops t listed
  | k :: pre, listed => decide (k < brk) && (Region.ready md ops listed).contains k && Region.free md ops listed k && (match ops[k]? with | some o => simpleOp o.op | none => false) && pickT md ops brk t pre (listed.setIfInBounds k true)

theorem anyB_pickT {l : List Oper} {brk : Nat} {K : Act → Prop} (hs : Region.noSelect l.toArray = true) (hQ : ∀ c a a' w, Q (.panic c) a w → Q (.panic c) a' w) (t : Tr)
    (hbrk : ∀ i, i < brk → ∀ (j : Nat) (oj : Oper), l.toArray[j]? = some oj → ¬ j < brk → ∃ e ∈ oj.after, Region.binds md e = true ∧ e.on = i) :
    ∀ (idx : List Nat) (pre : List Oper) (listed : Array Bool) (a : Act) (w : World), idx.map (fun k => l.toArray[k]?) = pre.map some → listed.size = l.toArray.size →
      pickT md l.toArray brk t idx listed = true → S w → wpQuiet P l.toArray S K pre a → (∀ a', K a' → treeL P l Q S brk t a' w) →
      anyB P md l.toArray Q S brk (pre.length + t.depth) listed a w
  | [], [], listed, a, w, _, _, hB, _, h, hK => by
    rw [List.length_nil, Nat.zero_add]
    exact anyB_tree t listed a w hB (hK a h)
  | [], _ :: _, _, _, _, he, _, _, _, _, _ => by simp at he
  | _ :: _, [], _, _, _, he, _, _, _, _, _ => by simp at he
  | k :: idx, o :: pre, listed, a, w, he, hls, hB, hS, h, hK => by
    simp only [List.map_cons, List.cons.injEq] at he
    obtain ⟨h0, he2⟩ := he
    simp only [pickT, Bool.and_eq_true, h0, decide_eq_true_eq] at hB
    obtain ⟨⟨⟨⟨hkb, hr⟩, hf⟩, hso⟩, hB'⟩ := hB
    have hy : ∃ v, YieldsIf P l.toArray S o v a ∧ wpQuiet P l.toArray S K pre (a.put o.dst v) := by
      unfold wpQuiet at h
      by_cases hw : Region.wanted o (yielded l.toArray a.tmps) = true
      · rw [if_pos hw] at h
        obtain ⟨v, hv, hn⟩ := h
        exact ⟨v, yieldsIf_of_quiet hso hw hv, hn⟩
      · rw [if_neg hw] at h
        exact ⟨undef, .inr ⟨by simpa using hw, rfl⟩, h⟩
    obtain ⟨v, hy, hn⟩ := hy
    rw [List.length_cons, show pre.length + 1 + t.depth = (pre.length + t.depth) + 1 from by omega]
    refine anyB_first h0 (Region.noSelect_spec hs) (fun c a' w' q => hQ c _ _ w' q) hkb (hbrk k hkb) _ listed a w hls (Region.free_spec h0 hf) (by simpa using hr) hy hS ?_
    exact anyB_pickT hs hQ t hbrk idx pre _ _ w he2 (by simp [hls]) hB' hS hn hK

/-- The last operation alone waits for all others. -/
def forksB (l : List Oper) (idx : List Nat) (t : Tr) : Bool :=
  Region.noSelect l.toArray && pickT .any l.toArray (l.length - 1) t idx (Array.replicate l.length false) && decide (idx.length + t.depth = l.length) &&
    (match l.getLast? with | some o => (List.range (l.length - 1)).all fun j => o.after.any fun e => Region.binds .any e && e.on == j | none => false)

theorem fork_any {l : List Oper} (idx : List Nat) (t : Tr) {pre : List Oper} {a : Act} {w : World} (S : World → Prop) (hpre : idx.map (fun k => l.toArray[k]?) = pre.map some)
    (hB : forksB l idx t = true) (hS : S w)
    (h : wpQuiet P l.toArray S (fun a' => treeL P l (Calm Q) S (l.length - 1) t a' w) pre a) : wpAny P .any l.toArray (Calm Q) l.length (Array.replicate l.length false) a w := by
  unfold forksB at hB
  simp only [Bool.and_eq_true, decide_eq_true_eq] at hB
  obtain ⟨⟨⟨hs, hT⟩, hlen⟩, hL⟩ := hB
  have e1 : pre.length = idx.length := by have := congrArg List.length hpre; simpa using this.symm
  have key := anyB_pickT (P := P) (l := l) (Q := Calm Q) (md := .any) (S := S) (brk := l.length - 1) (K := fun a' => treeL P l (Calm Q) S (l.length - 1) t a' w) hs (fun c a a' w q => q.elim) t
    (fun i hi j oj hj hjb => by
      have hjl : j < l.length := by
        simp only [List.getElem?_toArray] at hj
        exact (List.getElem?_eq_some_iff.1 hj).1
      obtain rfl : j = l.length - 1 := by omega
      have hlast : l.getLast? = some oj := by rw [List.getLast?_eq_getElem?]; simpa using hj
      rw [hlast] at hL
      simp only [List.all_eq_true, List.mem_range] at hL
      have := hL i hi
      rw [Array.any_eq_true'] at this
      obtain ⟨e, he, h5⟩ := this
      simp only [Bool.and_eq_true, beq_iff_eq] at h5
      exact ⟨e, he, h5.1, h5.2⟩)
    idx pre (Array.replicate l.length false) a w hpre (by simp) hT hS h (fun a' ha => ha)
  have := wpAny_of_anyB _ _ _ _ key
  rwa [e1, hlen] at this

/-- THE LAW. -/
theorem wp_region_fork {l : List Oper} (idx : List Nat) (t : Tr) {id : Nat} {a : Act} {w : World} (S : World → Prop) (hm : P.follows .mixedOrders = true) (hi : idx.all (fun k => decide (k < l.length)) = true)
    (hB : forksB l idx t = true) (hS : S w.drew)
    (h : wpQuiet P l.toArray S (fun a' => treeL P l (Calm Q) S (l.length - 1) t a' w.drew) (idx.filterMap (fun k => l[k]?)) a) : (Code.region id l.toArray true).wp P Q a w := by
  refine wp_mono ?_ calm_imp
  refine wp_region_any hm ?_
  have := fork_any (Q := Q) idx t S (pre_some hi) hB hS h
  simpa using this

/-- The same where S holds behind every operation, the last one too: nothing need wait for all others. -/
def forksA (l : List Oper) (idx : List Nat) (t : Tr) : Bool :=
  Region.noSelect l.toArray && pickT .any l.toArray l.length t idx (Array.replicate l.length false) && decide (idx.length + t.depth = l.length)

theorem fork_anyA {l : List Oper} (idx : List Nat) (t : Tr) {pre : List Oper} {a : Act} {w : World} (S : World → Prop) (hpre : idx.map (fun k => l.toArray[k]?) = pre.map some)
    (hB : forksA l idx t = true) (hS : S w)
    (h : wpQuiet P l.toArray S (fun a' => treeL P l (Calm Q) S l.length t a' w) pre a) : wpAny P .any l.toArray (Calm Q) l.length (Array.replicate l.length false) a w := by
  unfold forksA at hB
  simp only [Bool.and_eq_true, decide_eq_true_eq] at hB
  obtain ⟨⟨hs, hT⟩, hlen⟩ := hB
  have e1 : pre.length = idx.length := by have := congrArg List.length hpre; simpa using this.symm
  have key := anyB_pickT (P := P) (l := l) (Q := Calm Q) (md := .any) (S := S) (brk := l.length) (K := fun a' => treeL P l (Calm Q) S l.length t a' w) hs (fun c a a' w q => q.elim) t
    (fun i hi j oj hj hjb => by
      exfalso
      simp only [List.getElem?_toArray] at hj
      exact hjb (List.getElem?_eq_some_iff.1 hj).1)
    idx pre (Array.replicate l.length false) a w hpre (by simp) hT hS h (fun a' ha => ha)
  have := wpAny_of_anyB _ _ _ _ key
  rwa [e1, hlen] at this

theorem wp_region_forkA {l : List Oper} (idx : List Nat) (t : Tr) {id : Nat} {a : Act} {w : World} (S : World → Prop) (hm : P.follows .mixedOrders = true) (hi : idx.all (fun k => decide (k < l.length)) = true)
    (hB : forksA l idx t = true) (hS : S w.drew)
    (h : wpQuiet P l.toArray S (fun a' => treeL P l (Calm Q) S l.length t a' w.drew) (idx.filterMap (fun k => l[k]?)) a) : (Code.region id l.toArray true).wp P Q a w := by
  refine wp_mono ?_ calm_imp
  refine wp_region_any hm ?_
  have := fork_anyA (Q := Q) idx t S (pre_some hi) hB hS h
  simpa using this

theorem stepL_at {l : List Oper} {brk k : Nat} {K : Act → World → Prop} {o : Oper} {a : Act} {w : World} (h0 : l[k]? = some o)
    (h : ∀ (K' : Act → World → Prop) (Q' : Exit → Act → World → Prop), (∀ a' w', (k < brk → S w') → K a' w' → K' a' w') → o.wp P a w K' Q') (hw : Region.wanted o (yielded l.toArray a.tmps) = true := by rfl) : stepL P l Q S brk k K a w := by
  unfold stepL
  rw [h0]
  exact ⟨hw, h _ _ fun _ _ h1 h2 => ⟨h1, h2⟩⟩

theorem treeL_nil {l : List Oper} {brk : Nat} {a : Act} {w : World} (h : Q .normal a w) : treeL P l (Calm Q) S brk .nil a w := h

/-- A load whose value is known in every world of the class, in the lexical walk. -/
theorem wpQuiet_load {ops : Array Oper} {C : World → Prop} {Q : Act → Prop} {a : Act} {o : Oper} {rest : List Oper} (ty : TypeId) (x : Operand) (ho : o.op = .load ty x) (p v : Value) (hx : a.eval x = p)
    (hl : ∀ w, C w → (Instr.loadAt ty p).run P w = .ok v w) (h : wpQuiet P ops C Q rest (a.put o.dst v)) (hw : Region.wanted o (yielded ops a.tmps) = true := by rfl) : wpQuiet P ops C Q (o :: rest) a :=
  wpQuiet_step fun K hK => by
    rw [if_pos hw]
    refine ⟨v, fun w hC => ?_, hK _ h⟩
    unfold Oper.quietAt execOp
    simp only [ho, hx, Sem.run_bind, Sem.run_pure, Result.andThen_ok, hl w hC]
    exact ⟨rfl, rfl⟩

end

end Go.Proofs.YtbbgabdiikdjpaaDoor

namespace Go.Proofs.YtbbgabdiikdjpaaDoor
open Go

inductive Ph where
  | nil : Ph
  | one (k : Nat) (t : Ph) : Ph
  | qs (idx : List Nat) (t : Ph) : Ph

def Ph.depth : Ph → Nat
  | .nil => 0
  | .one _ t => t.depth + 1
  | .qs idx t => idx.length + t.depth

def quietB (md : Region.Mode) (ops : Array Oper) (brk : Nat) : List Nat → Array Bool → Bool
  | [], _ => true
  | k :: idx, listed => decide (k < brk) && (Region.ready md ops listed).contains k && Region.free md ops listed k && (match ops[k]? with | some o => simpleOp o.op | none => false) && quietB md ops brk idx (listed.setIfInBounds k true)

def setAll : List Nat → Array Bool → Array Bool
  | [], listed => listed
  | k :: idx, listed => setAll idx (listed.setIfInBounds k true)

theorem setAll_size (idx : List Nat) (listed : Array Bool) : (setAll idx listed).size = listed.size := by
  induction idx generalizing listed with
  | nil => rfl
  | cons k idx ih => rw [setAll, ih]; simp

def phB (md : Region.Mode) (ops : Array Oper) (brk : Nat) : Ph → Array Bool → Bool
  | .nil, listed => (Region.ready md ops listed).isEmpty
  | .one k t, listed => (Region.ready md ops listed == [k]) && phB md ops brk t (listed.setIfInBounds k true)
  | .qs idx t, listed => quietB md ops brk idx listed && phB md ops brk t (setAll idx listed)

section
variable {P : Program} {Q : Exit → Act → World → Prop} {md : Region.Mode} {S : World → Prop}

/-- What is asked, phase by phase. -/
def phL (P : Program) (l : List Oper) (Q : Exit → Act → World → Prop) (S : World → Prop) (brk : Nat) : Ph → Act → World → Prop
  | .nil, a, w => Q .normal a w
  | .one k t, a, w => stepL P l Q S brk k (phL P l Q S brk t) a w
  | .qs idx t, a, w => S w ∧ wpQuiet P l.toArray S (fun a' => phL P l Q S brk t a' w) (idx.filterMap (fun k => l[k]?)) a

theorem anyB_quiet {l : List Oper} {brk n : Nat} {K : Act → Prop} (hs : Region.noSelect l.toArray = true) (hQ : ∀ c a a' w, Q (.panic c) a w → Q (.panic c) a' w)
    (hbrk : ∀ i, i < brk → ∀ (j : Nat) (oj : Oper), l.toArray[j]? = some oj → ¬ j < brk → ∃ e ∈ oj.after, Region.binds md e = true ∧ e.on = i) :
    ∀ (idx : List Nat) (listed : Array Bool) (a : Act) (w : World), listed.size = l.toArray.size →
      quietB md l.toArray brk idx listed = true → S w → wpQuiet P l.toArray S K (idx.filterMap (fun k => l[k]?)) a → (∀ a', K a' → anyB P md l.toArray Q S brk n (setAll idx listed) a' w) →
      anyB P md l.toArray Q S brk (idx.length + n) listed a w
  | [], listed, a, w, _, _, _, h, hK => by
    rw [List.length_nil, Nat.zero_add]
    exact hK a h
  | k :: idx, listed, a, w, hls, hB, hS, h, hK => by
    simp only [quietB, Bool.and_eq_true, decide_eq_true_eq] at hB
    obtain ⟨⟨⟨⟨hkb, hr⟩, hf⟩, hso⟩, hB'⟩ := hB
    cases h0 : l.toArray[k]? with
    | none => rw [h0] at hso; cases hso
    | some o =>
      rw [h0] at hso
      have h0' : l[k]? = some o := by simpa using h0
      rw [List.filterMap_cons, h0'] at h
      have hy : ∃ v, YieldsIf P l.toArray S o v a ∧ wpQuiet P l.toArray S K (idx.filterMap (fun k => l[k]?)) (a.put o.dst v) := by
        unfold wpQuiet at h
        by_cases hw : Region.wanted o (yielded l.toArray a.tmps) = true
        · simp only [hw, if_true] at h
          obtain ⟨v, hv, hn⟩ := h
          exact ⟨v, yieldsIf_of_quiet hso hw hv, hn⟩
        · simp only [hw, if_false, Bool.false_eq_true] at h
          exact ⟨undef, .inr ⟨by simpa using hw, rfl⟩, h⟩
      obtain ⟨v, hy, hn⟩ := hy
      rw [List.length_cons, show idx.length + 1 + n = (idx.length + n) + 1 from by omega]
      refine anyB_first h0 (Region.noSelect_spec hs) (fun c a' w' q => hQ c _ _ w' q) hkb (hbrk k hkb) _ listed a w hls (Region.free_spec h0 hf) (by simpa using hr) hy hS ?_
      exact anyB_quiet hs hQ hbrk idx _ _ w (by simp [hls]) hB' hS hn hK

theorem anyB_ph {l : List Oper} {brk : Nat} (hs : Region.noSelect l.toArray = true) (hQ : ∀ c a a' w, Q (.panic c) a w → Q (.panic c) a' w)
    (hbrk : ∀ i, i < brk → ∀ (j : Nat) (oj : Oper), l.toArray[j]? = some oj → ¬ j < brk → ∃ e ∈ oj.after, Region.binds md e = true ∧ e.on = i) :
    ∀ (t : Ph) (listed : Array Bool) (a : Act) (w : World), listed.size = l.toArray.size → phB md l.toArray brk t listed = true → phL P l Q S brk t a w → anyB P md l.toArray Q S brk t.depth listed a w
  | .nil, listed, a, w, _, hB, h => ⟨by simpa [phB] using hB, h⟩
  | .one k t, listed, a, w, hls, hB, h => by
    simp only [phB, Bool.and_eq_true] at hB
    obtain ⟨hr, hB'⟩ := hB
    have hr' : Region.ready md l.toArray listed = [k] := by simpa using hr
    refine ⟨fun q => (by rw [hr'] at q; cases q), fun i hi => ?_⟩
    rw [hr'] at hi
    obtain rfl : i = k := by simpa using hi
    exact wpOp_stepL h (fun a' w' h' => anyB_ph hs hQ hbrk t _ a' w' (by simp [hls]) hB' h')
  | .qs idx t, listed, a, w, hls, hB, h => by
    simp only [phB, Bool.and_eq_true] at hB
    exact anyB_quiet hs hQ hbrk idx listed a w hls hB.1 h.1 h.2 (fun a' ha => anyB_ph hs hQ hbrk t _ a' w (by rw [setAll_size]; exact hls) hB.2 ha)

/-- THE LAW. -/
theorem wp_region_ph {l : List Oper} (t : Ph) {id : Nat} {a : Act} {w : World} (S : World → Prop) (hm : P.follows .mixedOrders = true)
    (hB : (Region.noSelect l.toArray && phB .any l.toArray l.length t (Array.replicate l.length false) && decide (t.depth = l.length)) = true)
    (h : phL P l (Calm Q) S l.length t a w.drew) : (Code.region id l.toArray true).wp P Q a w := by
  refine wp_mono ?_ calm_imp
  refine wp_region_any hm ?_
  simp only [Bool.and_eq_true, decide_eq_true_eq] at hB
  obtain ⟨⟨hs, hT⟩, hlen⟩ := hB
  have key := anyB_ph (P := P) (l := l) (Q := Calm Q) (md := .any) (S := S) (brk := l.length) hs (fun c a a' w q => q.elim)
    (fun i hi j oj hj hjb => by
      exfalso
      simp only [List.getElem?_toArray] at hj
      exact hjb (List.getElem?_eq_some_iff.1 hj).1) t (Array.replicate l.length false) a w.drew (by simp) hT h
  have := wpAny_of_anyB _ _ _ _ key
  rw [hlen] at this
  simpa using this

theorem phL_nil {l : List Oper} {brk : Nat} {a : Act} {w : World} (h : Q .normal a w) : phL P l (Calm Q) S brk .nil a w := h

theorem phL_qs {l : List Oper} {brk : Nat} {idx : List Nat} {t : Ph} {a : Act} {w : World} (hS : S w) (h : wpQuiet P l.toArray S (fun a' => phL P l Q S brk t a' w) (idx.filterMap (fun k => l[k]?)) a) : phL P l Q S brk (.qs idx t) a w := ⟨hS, h⟩

end

end Go.Proofs.YtbbgabdiikdjpaaDoor

namespace Go.Proofs.YtbbgabdiikdjpaaDoor
open Go

inductive Pt where
  | nil : Pt
  | one (k : Nat) (t : Pt) : Pt
  | two (k1 : Nat) (t1 : Pt) (k2 : Nat) (t2 : Pt) : Pt
  | qs (idx : List Nat) (t : Pt) : Pt

def Pt.depth : Pt → Nat
  | .nil => 0
  | .one _ t => t.depth + 1
  | .two _ t _ _ => t.depth + 1
  | .qs idx t => idx.length + t.depth

def ptB (md : Region.Mode) (ops : Array Oper) (brk : Nat) : Pt → Array Bool → Bool
  | .nil, listed => (Region.ready md ops listed).isEmpty
  | .one k t, listed => (Region.ready md ops listed == [k]) && ptB md ops brk t (listed.setIfInBounds k true)
  | .two k1 t1 k2 t2, listed => (Region.ready md ops listed == [k1, k2]) && (t1.depth == t2.depth) && ptB md ops brk t1 (listed.setIfInBounds k1 true) && ptB md ops brk t2 (listed.setIfInBounds k2 true)
  | .qs idx t, listed => quietB md ops brk idx listed && ptB md ops brk t (setAll idx listed)

section
variable {P : Program} {Q : Exit → Act → World → Prop} {md : Region.Mode} {S : World → Prop}

/-- What is asked, phase by phase. -/
def ptL (P : Program) (l : List Oper) (Q : Exit → Act → World → Prop) (S : World → Prop) (brk : Nat) : Pt → Act → World → Prop
  | .nil, a, w => Q .normal a w
  | .one k t, a, w => stepL P l Q S brk k (ptL P l Q S brk t) a w
  | .two k1 t1 k2 t2, a, w => stepL P l Q S brk k1 (ptL P l Q S brk t1) a w ∧ stepL P l Q S brk k2 (ptL P l Q S brk t2) a w
  | .qs idx t, a, w => S w ∧ wpQuiet P l.toArray S (fun a' => ptL P l Q S brk t a' w) (idx.filterMap (fun k => l[k]?)) a

theorem anyB_pt {l : List Oper} {brk : Nat} (hs : Region.noSelect l.toArray = true) (hQ : ∀ c a a' w, Q (.panic c) a w → Q (.panic c) a' w)
    (hbrk : ∀ i, i < brk → ∀ (j : Nat) (oj : Oper), l.toArray[j]? = some oj → ¬ j < brk → ∃ e ∈ oj.after, Region.binds md e = true ∧ e.on = i) :
    ∀ (t : Pt) (listed : Array Bool) (a : Act) (w : World), listed.size = l.toArray.size → ptB md l.toArray brk t listed = true → ptL P l Q S brk t a w → anyB P md l.toArray Q S brk t.depth listed a w
  | .nil, listed, a, w, _, hB, h => ⟨by simpa [ptB] using hB, h⟩
  | .one k t, listed, a, w, hls, hB, h => by
    simp only [ptB, Bool.and_eq_true] at hB
    obtain ⟨hr, hB'⟩ := hB
    have hr' : Region.ready md l.toArray listed = [k] := by simpa using hr
    refine ⟨fun q => (by rw [hr'] at q; cases q), fun i hi => ?_⟩
    rw [hr'] at hi
    obtain rfl : i = k := by simpa using hi
    exact wpOp_stepL h (fun a' w' h' => anyB_pt hs hQ hbrk t _ a' w' (by simp [hls]) hB' h')
  | .two k1 t1 k2 t2, listed, a, w, hls, hB, h => by
    simp only [ptB, Bool.and_eq_true] at hB
    obtain ⟨⟨⟨hr, hd⟩, hB1⟩, hB2⟩ := hB
    have hr' : Region.ready md l.toArray listed = [k1, k2] := by simpa using hr
    have hd' : t1.depth = t2.depth := by simpa using hd
    refine ⟨fun q => (by rw [hr'] at q; cases q), fun i hi => ?_⟩
    rw [hr'] at hi
    have hi' : i = k1 ∨ i = k2 := by simpa using hi
    rcases hi' with rfl | rfl
    · exact wpOp_stepL h.1 (fun a' w' h' => anyB_pt hs hQ hbrk t1 _ a' w' (by simp [hls]) hB1 h')
    · exact wpOp_stepL h.2 (fun a' w' h' => by have := anyB_pt hs hQ hbrk t2 _ a' w' (by simp [hls]) hB2 h'; rw [← hd'] at this; exact this)
  | .qs idx t, listed, a, w, hls, hB, h => by
    simp only [ptB, Bool.and_eq_true] at hB
    exact anyB_quiet hs hQ hbrk idx listed a w hls hB.1 h.1 h.2 (fun a' ha => anyB_pt hs hQ hbrk t _ a' w (by rw [setAll_size]; exact hls) hB.2 ha)

/-- THE LAW. -/
theorem wp_region_pt {l : List Oper} (t : Pt) {id : Nat} {a : Act} {w : World} (S : World → Prop) (hm : P.follows .mixedOrders = true)
    (hB : (Region.noSelect l.toArray && ptB .any l.toArray l.length t (Array.replicate l.length false) && decide (t.depth = l.length)) = true)
    (h : ptL P l (Calm Q) S l.length t a w.drew) : (Code.region id l.toArray true).wp P Q a w := by
  refine wp_mono ?_ calm_imp
  refine wp_region_any hm ?_
  simp only [Bool.and_eq_true, decide_eq_true_eq] at hB
  obtain ⟨⟨hs, hT⟩, hlen⟩ := hB
  have key := anyB_pt (P := P) (l := l) (Q := Calm Q) (md := .any) (S := S) (brk := l.length) hs (fun c a a' w q => q.elim)
    (fun i hi j oj hj hjb => by
      exfalso
      simp only [List.getElem?_toArray] at hj
      exact hjb (List.getElem?_eq_some_iff.1 hj).1) t (Array.replicate l.length false) a w.drew (by simp) hT h
  have := wpAny_of_anyB _ _ _ _ key
  rw [hlen] at this
  simpa using this

theorem ptL_nil {l : List Oper} {brk : Nat} {a : Act} {w : World} (h : Q .normal a w) : ptL P l (Calm Q) S brk .nil a w := h

theorem ptL_qs {l : List Oper} {brk : Nat} {idx : List Nat} {t : Pt} {a : Act} {w : World} (hS : S w) (h : wpQuiet P l.toArray S (fun a' => ptL P l Q S brk t a' w) (idx.filterMap (fun k => l[k]?)) a) : ptL P l Q S brk (.qs idx t) a w := ⟨hS, h⟩

end

end Go.Proofs.YtbbgabdiikdjpaaDoor

namespace Go.Proofs.YtbbgabdiikdjpaaDoor
open Go.RowKit Go.Deep

set_option maxHeartbeats 40000000 in
set_option maxRecDepth 100000 in
theorem recat_any {x : Option Addr} {c l : Nat} (X : Nat → Prop) (hX : ∀ a, x = some a → X a.block) (ms : List Int) (a : Nat) (w : World) (h : Bys w x c ms) (hl : ms.length = l) (ha : a ≤ 9000000000000000000) :
    Calls Tryd.prog 24 #[.slice x l c, .int .i64 (a : Int)] w (RecPost X (readR ms a) w) := by
  subst hl
  have hlen : ms.length ≤ 200000000000000 := h.2.1
  have hcap : ms.length ≤ c := h.1
  have HBS := hid h.2.2.1
  obtain ⟨⟨k, L, n⟩, hr⟩ : ∃ s, readW ms (a : Int) = s := ⟨_, rfl⟩
  have HR := hid hr
  have HH := hid h
  have HX := hid hX
  have B0 := hid ((Below.refl _ w).alloc (Nat.le_refl _) (.cells rec8 69))
  have K0 := hid (Bl.new 69 w rec8)
  clear h hr hX
  go_enter Tryd.func24, Tryd.ntmps24
  go_wp2_with fail
  refine (nameAt_new k L n ms (a : Int) _ (HH.out.below B0.out) rfl (by omega) HR.out).mono ?_
  rintro e w1 ⟨y, q, rfl, hs1, b1, f1⟩
  have A1 := hid ((Below.refl _ w1).alloc (Nat.le_refl _) (.cells #[.slice y L.length q, .int .i64 (n : Int), .int .i64 k] 62))
  have T1 := hid (Bl.new 62 w1 #[.slice y L.length q, .int .i64 (n : Int), .int .i64 k])
  have B1 := hid (grown_on (grown_on B0.out b1) A1.out)
  have K1 := hid ((K0.out.below b1).below A1.out)
  have S1 := hid (hs1.below A1.out)
  have F1 : Hid (∀ a, y = some a → w.heap.size + 1 ≤ a.block) := hid (fun a q => by have := f1 a q; simpa using this)
  have hw1 : w.heap.size < w1.heap.size := by have := b1.size; simp at this; omega
  clear b1 B0 K0 hs1 f1 A1
  have t0 := T1.out.cell (i := 0) rfl
  have t1 := T1.out.cell (i := 1) rfl
  have t2 := T1.out.cell (i := 2) rfl
  have hwA : w1.heap.size < (w1.alloc (.cells #[.slice y L.length q, .int .i64 (n : Int), .int .i64 k] 62)).heap.size := T1.out.lt
  go_upto_region 2 with fail
  generalize w1.alloc (.cells #[.slice y L.length q, .int .i64 (n : Int), .int .i64 k] 62) = W at *
  generalize w1.heap.size = tb at *
  by_cases k0 : k = 0
  case neg =>
    have HE : Hid ((readR ms a).1 = k) := hid (by rw [readR_bad (k := k) (by unfold recW; rw [HR.out]; simp only; rw [if_pos k0]) k0])
    have K0 := hid k0
    have k0' : (k != 0) = true := bne_iff_ne.2 k0
    clear k0
    have c0 := K1.out.cell (i := 0) rfl
    have f0 := K1.out.frozen 0
    have c1 := K1.out.cell (i := 1) rfl
    have f1 := K1.out.frozen 1
    have c2 := K1.out.cell (i := 2) rfl
    have f2 := K1.out.frozen 2
    have c3 := K1.out.cell (i := 3) rfl
    have f3 := K1.out.frozen 3
    have c4 := K1.out.cell (i := 4) rfl
    have f4 := K1.out.frozen 4
    have c5 := K1.out.cell (i := 5) rfl
    have f5 := K1.out.frozen 5
    have c6 := K1.out.cell (i := 6) rfl
    have f6 := K1.out.frozen 6
    have c7 := K1.out.cell (i := 7) rfl
    have f7 := K1.out.frozen 7
    go_wp2_with fail
    refine bodyPost_ret (results_recat _ _ w.heap.size _ _ _ _ _ _ _ _ rfl (K1.out.put8 _ _ _ _ _ _ _ _)) rfl ?_
    exact recPost_bad HE.out K0.out (below_put8 B1.out (Nat.le_refl _) _ _ _ _ _ _ _ _)
  subst k0
  obtain ⟨_, n1, n2, _⟩ := readW_may HBS.out HR.out
  have HRW : Hid (recW ms (a : Int) = if ms.length < n + 10 then (2, [], 0, 0) else if ms.length < n + 10 + pairN ms (n + 8) then (2, [], 0, 0) else (0, L, n, n + 10 + pairN ms (n + 8))) := hid (by unfold recW; rw [HR.out]; simp)
  by_cases c10 : (ms.length : Int) < (n : Int) + 10
  · have HE : Hid ((readR ms a).1 = 2) := hid (by rw [readR_bad (k := 2) (by rw [HRW.out, if_pos (by omega)]) (by decide)])
    have c0 := K1.out.cell (i := 0) rfl
    have f0 := K1.out.frozen 0
    have c1 := K1.out.cell (i := 1) rfl
    have f1 := K1.out.frozen 1
    have c2 := K1.out.cell (i := 2) rfl
    have f2 := K1.out.frozen 2
    have c3 := K1.out.cell (i := 3) rfl
    have f3 := K1.out.frozen 3
    have c4 := K1.out.cell (i := 4) rfl
    have f4 := K1.out.frozen 4
    have c5 := K1.out.cell (i := 5) rfl
    have f5 := K1.out.frozen 5
    have c6 := K1.out.cell (i := 6) rfl
    have f6 := K1.out.frozen 6
    have c7 := K1.out.cell (i := 7) rfl
    have f7 := K1.out.frozen 7
    go_wp2_with fail
    refine bodyPost_ret (results_recat _ _ w.heap.size _ _ _ _ _ _ _ _ rfl (K1.out.put8 _ _ _ _ _ _ _ _)) rfl ?_
    exact recPost_bad HE.out (by decide) (below_put8 B1.out (Nat.le_refl _) _ _ _ _ _ _ _ _)
  have hp8 : prN ms ((n : Int) + 8) = (pairN ms (n + 8) : Int) := by
    unfold prN pairN
    have g0 := getD_byte HBS.out (n + 8)
    have g1 := getD_byte HBS.out (n + 8 + 1)
    have e : ((n : Int) + 8).toNat = n + 8 := by omega
    rw [e]; omega
  obtain ⟨d, hd⟩ : ∃ d, pairN ms (n + 8) = d := ⟨_, rfl⟩
  rw [hd] at hp8 HRW
  have hd2 := (prN_bound HBS.out ((n : Int) + 8)).2
  rw [hp8] at hd2
  have HP8 := hid hp8
  have HD := hid hd
  clear hp8 hd
  go_wp2_with fail
  refine (rpairAt ms ((n : Int) + 8) (d : Int) _ (HH.out.below B1.out) rfl (by omega) (by omega) HP8.out).mono ?_
  rintro e w2 ⟨rfl, b2⟩
  have B2 := hid (grown_on B1.out b2)
  have K2 := hid (K1.out.below b2)
  have T2 := hid (T1.out.below b2)
  have S2 := hid (S1.out.below b2)
  clear b2 t0 t1 t2 B1 K1 T1 S1 hwA
  by_cases c11 : (ms.length : Int) < (n : Int) + 10 + (d : Int)
  · have HE : Hid ((readR ms a).1 = 2) := hid (by rw [readR_bad (k := 2) (by rw [HRW.out, if_neg (by omega), if_pos (by omega)]) (by decide)])
    have c0 := K2.out.cell (i := 0) rfl
    have f0 := K2.out.frozen 0
    have c1 := K2.out.cell (i := 1) rfl
    have f1 := K2.out.frozen 1
    have c2 := K2.out.cell (i := 2) rfl
    have f2 := K2.out.frozen 2
    have c3 := K2.out.cell (i := 3) rfl
    have f3 := K2.out.frozen 3
    have c4 := K2.out.cell (i := 4) rfl
    have f4 := K2.out.frozen 4
    have c5 := K2.out.cell (i := 5) rfl
    have f5 := K2.out.frozen 5
    have c6 := K2.out.cell (i := 6) rfl
    have f6 := K2.out.frozen 6
    have c7 := K2.out.cell (i := 7) rfl
    have f7 := K2.out.frozen 7
    go_wp2_with fail
    refine bodyPost_ret (results_recat _ _ w.heap.size _ _ _ _ _ _ _ _ rfl (K2.out.put8 _ _ _ _ _ _ _ _)) rfl ?_
    exact recPost_bad HE.out (by decide) (below_put8 B2.out (Nat.le_refl _) _ _ _ _ _ _ _ _)
  have HRR : Hid (readR ms a = (0, ⟨L.map strOfNums, prN ms (n : Int), prN ms ((n : Int) + 2), prN ms ((n : Int) + 4) * 65536 + prN ms ((n : Int) + 6), Nm.cut ms (n + 10) d⟩, n + 10 + d)) := hid (by
    rw [readR_of (by rw [HRW.out, if_neg (by omega), if_neg (by omega)]), HD.out, num_cut2 (by omega), num_cut2 (by omega), num_cut4 (by omega)]
    have q0 : ((n : Int)).toNat = n := by omega
    have q2 : ((n : Int) + 2).toNat = n + 2 := by omega
    have q4 : ((n : Int) + 4).toNat = n + 4 := by omega
    have q6 : ((n : Int) + 6).toNat = n + 6 := by omega
    have q7 : n + 4 + 1 = n + 5 := rfl
    have q8 : n + 4 + 2 = n + 6 := rfl
    have q9 : n + 4 + 3 = n + 6 + 1 := rfl
    have e4 : ((ms.getD (n + 4) 0 * 256 + ms.getD (n + 4 + 1) 0) * 256 + ms.getD (n + 4 + 2) 0) * 256 + ms.getD (n + 4 + 3) 0 = (ms.getD (n + 4) 0 * 256 + ms.getD (n + 4 + 1) 0) * 65536 + (ms.getD (n + 6) 0 * 256 + ms.getD (n + 6 + 1) 0) := by rw [q8, q9]; omega
    simp only [prN, q0, q2, q4, q6, e4])
  have pb0 := prN_bound HBS.out (n : Int)
  have pb2 := prN_bound HBS.out ((n : Int) + 2)
  have pb4 := prN_bound HBS.out ((n : Int) + 4)
  have pb6 := prN_bound HBS.out ((n : Int) + 6)
  have BYW := hid (HH.out.below B2.out)
  have CQ : Hid (∀ u, Below w2.heap.size w2 u → ∀ z, 0 ≤ z → z + 2 ≤ (ms.length : Int) → Calls Tryd.prog 22 #[.slice x ms.length c, .int .i64 z] u fun e u' => e = .returned (.int .i64 (prN ms z)) ∧ Drawn u u') := hid (fun u hu z h0 h1 => pair_quiet ms z _ u (BYW.out.below hu) rfl h0 h1 rfl)
  have CP : Hid (∀ u z, Below w2.heap.size w2 u → 0 ≤ z → z + 2 ≤ (ms.length : Int) → Calls Tryd.prog 22 #[.slice x ms.length c, .int .i64 z] u fun e u' => e = .returned (.int .i64 (prN ms z)) ∧ Below w2.heap.size w2 u' ∧ Below u.heap.size u u') := hid (fun u z hu h0 h1 => (rpairAt ms z _ u (BYW.out.below hu) rfl h0 h1 rfl).mono fun e u' ⟨q1, q2⟩ => ⟨q1, grown_on hu q2, q2⟩)
  have t0 := T2.out.cell (i := 0) rfl
  have htb : tb < w2.heap.size := T2.out.lt
  have PK : Hid (∀ u, Below w2.heap.size w2 u → u.cell? ⟨tb, 0, none⟩ = some (.slice y L.length q) ∧ Below w2.heap.size w2 u) := hid (fun u hu => ⟨(hu.cell (p := ⟨tb, 0, none⟩) htb).trans t0, hu⟩)
  generalize prN ms = pr at *
  have t1 := T2.out.cell (i := 1) rfl
  have L7 : Hid (∀ u, Below w2.heap.size w2 u → ∀ z, 0 ≤ z → z + 2 ≤ (ms.length : Int) → Calls Tryd.prog 22 #[.slice x ms.length c, .int .i64 z] u fun e u' => e = .returned (.int .i64 (pr z)) ∧ Drawn u u') := CQ
  have L7 : Hid (∀ u, Below w2.heap.size w2 u → ∀ z, 0 ≤ z → z + 2 ≤ (ms.length : Int) → Calls Tryd.prog 22 #[.slice x ms.length c, .int .i64 z] u fun e u' => e = .returned (.int .i64 (pr z)) ∧ Drawn u u') := CQ
  have L7 : Hid (∀ u, Below w2.heap.size w2 u → ∀ z, 0 ≤ z → z + 2 ≤ (ms.length : Int) → Calls Tryd.prog 22 #[.slice x ms.length c, .int .i64 z] u fun e u' => e = .returned (.int .i64 (pr z)) ∧ Drawn u u') := CQ
  have L7 : Hid (∀ u, Below w2.heap.size w2 u → ∀ z, 0 ≤ z → z + 2 ≤ (ms.length : Int) → Calls Tryd.prog 22 #[.slice x ms.length c, .int .i64 z] u fun e u' => e = .returned (.int .i64 (pr z)) ∧ Drawn u u') := CQ
  have L7 : Hid (∀ u, Below w2.heap.size w2 u → ∀ z, 0 ≤ z → z + 2 ≤ (ms.length : Int) → Calls Tryd.prog 22 #[.slice x ms.length c, .int .i64 z] u fun e u' => e = .returned (.int .i64 (pr z)) ∧ Drawn u u') := CQ
  have L7 : Hid (∀ u, Below w2.heap.size w2 u → ∀ z, 0 ≤ z → z + 2 ≤ (ms.length : Int) → Calls Tryd.prog 22 #[.slice x ms.length c, .int .i64 z] u fun e u' => e = .returned (.int .i64 (pr z)) ∧ Drawn u u') := CQ
  have L7 : Hid (∀ u, Below w2.heap.size w2 u → ∀ z, 0 ≤ z → z + 2 ≤ (ms.length : Int) → Calls Tryd.prog 22 #[.slice x ms.length c, .int .i64 z] u fun e u' => e = .returned (.int .i64 (pr z)) ∧ Drawn u u') := CQ
  have L7 : Hid (∀ u, Below w2.heap.size w2 u → ∀ z, 0 ≤ z → z + 2 ≤ (ms.length : Int) → Calls Tryd.prog 22 #[.slice x ms.length c, .int .i64 z] u fun e u' => e = .returned (.int .i64 (pr z)) ∧ Drawn u u') := CQ
  have L7 : Hid (∀ u, Below w2.heap.size w2 u → ∀ z, 0 ≤ z → z + 2 ≤ (ms.length : Int) → Calls Tryd.prog 22 #[.slice x ms.length c, .int .i64 z] u fun e u' => e = .returned (.int .i64 (pr z)) ∧ Drawn u u') := CQ
  have L7 : Hid (∀ u, Below w2.heap.size w2 u → ∀ z, 0 ≤ z → z + 2 ≤ (ms.length : Int) → Calls Tryd.prog 22 #[.slice x ms.length c, .int .i64 z] u fun e u' => e = .returned (.int .i64 (pr z)) ∧ Drawn u u') := CQ
  have L7 : Hid (∀ u, Below w2.heap.size w2 u → ∀ z, 0 ≤ z → z + 2 ≤ (ms.length : Int) → Calls Tryd.prog 22 #[.slice x ms.length c, .int .i64 z] u fun e u' => e = .returned (.int .i64 (pr z)) ∧ Drawn u u') := CQ
  go_upto_region 7 with fail
  clear t1 PK CP CQ
  go_cut [7] from 38 to 57 (fun v wx => v = .pointer (some ⟨w2.heap.size, 0, none⟩) ∧ Bl 67 wx w2.heap.size #[.slice y L.length q, .int .i64 (pr (n : Int)), .int .i64 (pr ((n : Int) + 2)), .int .i64 (pr ((n : Int) + 4) * 65536 + pr ((n : Int) + 6)), .slice none 0 0] ∧ Below w2.heap.size w2 wx)
  case first =>
    have hl0 : ∀ s' : OldsW w2.heap.size w2, s'.val.cell? ⟨tb, 0, none⟩ = some (.slice y L.length q) := fun s' => (s'.keeps.cell (p := ⟨tb, 0, none⟩) htb).trans t0
    have hNe : Nonempty (OldsW w2.heap.size w2) := ⟨⟨w2, Below.refl _ _⟩⟩
    refine wp_region_pt (.qs [0, 1, 2, 3, 5, 6, 7, 9, 10, 11, 14, 15, 16] (.two 4 (.two 8 (.two 12 (.qs [13] (.two 17 (.qs [18] (.two 19 (.one 20 (.one 21 .nil)) 20 (.one 19 (.one 21 .nil)))) 20 (.one 17 (.qs [18] (.one 19 (.one 21 .nil)))))) 20 (.one 12 (.qs [13] (.one 17 (.qs [18] (.one 19 (.one 21 .nil))))))) 20 (.one 8 (.one 12 (.qs [13] (.one 17 (.qs [18] (.one 19 (.one 21 .nil)))))))) 20 (.one 4 (.one 8 (.one 12 (.qs [13] (.one 17 (.qs [18] (.one 19 (.one 21 .nil)))))))))) (fun u => ∃ s' : OldsW w2.heap.size w2, u = s'.val) (by kernel_rfl) (by kernel_rfl) ?_
    refine ptL_qs ⟨⟨w2.drew, (Below.refl _ _).drew⟩, rfl⟩ ?_
    change wpQuiet _ _ _ _ [_, _, _, _, _, _, _, _, _, _, _, _, _] _
    repeat (go_big_quiet_step (fail))
    refine wpQuiet_nil ?_
    have DA : Drawn w2 w2.drew := (Drawn.refl w2).more 1
    have HB := (Below.refl w2.heap.size w2).drew
    refine ⟨?_, ?_⟩
    · skip
      refine stepL_at (by rfl) fun K Q' hK => ?_
      go_simp
      refine (L7.out _ HB (n : Int) (by omega) (by omega)).mono ?_
      rintro e u1 ⟨rfl, d⟩
      replace DA := DA.trans d
      replace HB := HB.trans ((d.below _).mono HB.size)
      refine hK _ _ (fun _ => ⟨⟨_, HB⟩, rfl⟩) ?_
      clear hK d
      refine ⟨?_, ?_⟩
      · skip
        refine stepL_at (by rfl) fun K Q' hK => ?_
        go_simp
        refine (L7.out _ HB ((n : Int) + 2) (by omega) (by omega)).mono ?_
        rintro e u2 ⟨rfl, d⟩
        replace DA := DA.trans d
        replace HB := HB.trans ((d.below _).mono HB.size)
        refine hK _ _ (fun _ => ⟨⟨_, HB⟩, rfl⟩) ?_
        clear hK d
        refine ⟨?_, ?_⟩
        · skip
          refine stepL_at (by rfl) fun K Q' hK => ?_
          go_simp
          refine (L7.out _ HB ((n : Int) + 4) (by omega) (by omega)).mono ?_
          rintro e u3 ⟨rfl, d⟩
          replace DA := DA.trans d
          replace HB := HB.trans ((d.below _).mono HB.size)
          refine hK _ _ (fun _ => ⟨⟨_, HB⟩, rfl⟩) ?_
          clear hK d
          refine ptL_qs ⟨⟨_, HB⟩, rfl⟩ ?_
          change wpQuiet _ _ _ _ [_] _
          repeat (go_big_quiet_step (fail))
          refine wpQuiet_nil ?_
          refine ⟨?_, ?_⟩
          · skip
            refine stepL_at (by rfl) fun K Q' hK => ?_
            go_simp
            refine (L7.out _ HB ((n : Int) + 6) (by omega) (by omega)).mono ?_
            rintro e u4 ⟨rfl, d⟩
            replace DA := DA.trans d
            replace HB := HB.trans ((d.below _).mono HB.size)
            refine hK _ _ (fun _ => ⟨⟨_, HB⟩, rfl⟩) ?_
            clear hK d
            refine ptL_qs ⟨⟨_, HB⟩, rfl⟩ ?_
            change wpQuiet _ _ _ _ [_] _
            repeat (go_big_quiet_step (fail))
            refine wpQuiet_nil ?_
            refine ⟨?_, ?_⟩
            · skip
              refine stepL_at (by rfl) fun K Q' hK => ?_
              go_simp
              refine hK _ _ (fun _ => ⟨⟨_, HB⟩, rfl⟩) ?_
              clear hK
              refine stepL_at (by rfl) fun K Q' hK => ?_
              go_simp
              have KA : Bl 67 (World.alloc u4 (.cells #[.slice none 0 0, .int .i64 0, .int .i64 0, .int .i64 0, .slice none 0 0] 67)) (World.heap u4).size #[.slice none 0 0, .int .i64 0, .int .i64 0, .int .i64 0, .slice none 0 0] := Bl.new 67 _ #[.slice none 0 0, .int .i64 0, .int .i64 0, .int .i64 0, .slice none 0 0]
              have hsz := congrArg Array.size DA.heap
              rw [hsz] at KA ⊢
              replace HB := HB.alloc HB.size (.cells #[.slice none 0 0, .int .i64 0, .int .i64 0, .int .i64 0, .slice none 0 0] 67)
              refine hK _ _ (fun _ => ⟨⟨_, HB⟩, rfl⟩) ?_
              clear hK DA hsz
              refine stepL_at (by rfl) fun K Q' hK => ?_
              refine wp_store_row 67 (.tmp 7) (.tmp 57) rfl w2.heap.size #[.slice y L.length q, .int .i64 (pr (n : Int)), .int .i64 (pr ((n : Int) + 2)), .int .i64 (pr ((n : Int) + 4) * 65536 + pr ((n : Int) + 6)), .slice none 0 0] rfl rfl 67 #[.slice none 0 0, .int .i64 0, .int .i64 0, .int .i64 0, .slice none 0 0] KA size_record rfl (by simp [Value.oneCell']) ?_
              refine hK _ _ (fun _ => ⟨⟨_, below_setRow HB (Nat.le_refl _) _⟩, rfl⟩) ?_
              clear hK
              refine ptL_nil ?_
              go_wp2
              go_meet
              exact ⟨rfl, KA.rowIn _, below_setRow HB (Nat.le_refl _) _⟩
            · skip
              refine stepL_at (by rfl) fun K Q' hK => ?_
              go_simp
              have KA : Bl 67 (World.alloc u4 (.cells #[.slice none 0 0, .int .i64 0, .int .i64 0, .int .i64 0, .slice none 0 0] 67)) (World.heap u4).size #[.slice none 0 0, .int .i64 0, .int .i64 0, .int .i64 0, .slice none 0 0] := Bl.new 67 _ #[.slice none 0 0, .int .i64 0, .int .i64 0, .int .i64 0, .slice none 0 0]
              have hsz := congrArg Array.size DA.heap
              rw [hsz] at KA ⊢
              replace HB := HB.alloc HB.size (.cells #[.slice none 0 0, .int .i64 0, .int .i64 0, .int .i64 0, .slice none 0 0] 67)
              refine hK _ _ (fun _ => ⟨⟨_, HB⟩, rfl⟩) ?_
              clear hK DA hsz
              refine stepL_at (by rfl) fun K Q' hK => ?_
              go_simp
              refine hK _ _ (fun _ => ⟨⟨_, HB⟩, rfl⟩) ?_
              clear hK
              refine stepL_at (by rfl) fun K Q' hK => ?_
              refine wp_store_row 67 (.tmp 7) (.tmp 57) rfl w2.heap.size #[.slice y L.length q, .int .i64 (pr (n : Int)), .int .i64 (pr ((n : Int) + 2)), .int .i64 (pr ((n : Int) + 4) * 65536 + pr ((n : Int) + 6)), .slice none 0 0] rfl rfl 67 #[.slice none 0 0, .int .i64 0, .int .i64 0, .int .i64 0, .slice none 0 0] KA size_record rfl (by simp [Value.oneCell']) ?_
              refine hK _ _ (fun _ => ⟨⟨_, below_setRow HB (Nat.le_refl _) _⟩, rfl⟩) ?_
              clear hK
              refine ptL_nil ?_
              go_wp2
              go_meet
              exact ⟨rfl, KA.rowIn _, below_setRow HB (Nat.le_refl _) _⟩
          · skip
            refine stepL_at (by rfl) fun K Q' hK => ?_
            go_simp
            have KA : Bl 67 (World.alloc u3 (.cells #[.slice none 0 0, .int .i64 0, .int .i64 0, .int .i64 0, .slice none 0 0] 67)) (World.heap u3).size #[.slice none 0 0, .int .i64 0, .int .i64 0, .int .i64 0, .slice none 0 0] := Bl.new 67 _ #[.slice none 0 0, .int .i64 0, .int .i64 0, .int .i64 0, .slice none 0 0]
            have hsz := congrArg Array.size DA.heap
            rw [hsz] at KA ⊢
            replace HB := HB.alloc HB.size (.cells #[.slice none 0 0, .int .i64 0, .int .i64 0, .int .i64 0, .slice none 0 0] 67)
            refine hK _ _ (fun _ => ⟨⟨_, HB⟩, rfl⟩) ?_
            clear hK DA hsz
            refine stepL_at (by rfl) fun K Q' hK => ?_
            go_simp
            refine (L7.out _ HB ((n : Int) + 6) (by omega) (by omega)).mono ?_
            rintro e u5 ⟨rfl, d⟩
            replace KA := KA.below (d.below _)
            replace HB := HB.trans ((d.below _).mono HB.size)
            refine hK _ _ (fun _ => ⟨⟨_, HB⟩, rfl⟩) ?_
            clear hK d
            refine ptL_qs ⟨⟨_, HB⟩, rfl⟩ ?_
            change wpQuiet _ _ _ _ [_] _
            repeat (go_big_quiet_step (fail))
            refine wpQuiet_nil ?_
            refine stepL_at (by rfl) fun K Q' hK => ?_
            go_simp
            refine hK _ _ (fun _ => ⟨⟨_, HB⟩, rfl⟩) ?_
            clear hK
            refine stepL_at (by rfl) fun K Q' hK => ?_
            refine wp_store_row 67 (.tmp 7) (.tmp 57) rfl w2.heap.size #[.slice y L.length q, .int .i64 (pr (n : Int)), .int .i64 (pr ((n : Int) + 2)), .int .i64 (pr ((n : Int) + 4) * 65536 + pr ((n : Int) + 6)), .slice none 0 0] rfl rfl 67 #[.slice none 0 0, .int .i64 0, .int .i64 0, .int .i64 0, .slice none 0 0] KA size_record rfl (by simp [Value.oneCell']) ?_
            refine hK _ _ (fun _ => ⟨⟨_, below_setRow HB (Nat.le_refl _) _⟩, rfl⟩) ?_
            clear hK
            refine ptL_nil ?_
            go_wp2
            go_meet
            exact ⟨rfl, KA.rowIn _, below_setRow HB (Nat.le_refl _) _⟩
        · skip
          refine stepL_at (by rfl) fun K Q' hK => ?_
          go_simp
          have KA : Bl 67 (World.alloc u2 (.cells #[.slice none 0 0, .int .i64 0, .int .i64 0, .int .i64 0, .slice none 0 0] 67)) (World.heap u2).size #[.slice none 0 0, .int .i64 0, .int .i64 0, .int .i64 0, .slice none 0 0] := Bl.new 67 _ #[.slice none 0 0, .int .i64 0, .int .i64 0, .int .i64 0, .slice none 0 0]
          have hsz := congrArg Array.size DA.heap
          rw [hsz] at KA ⊢
          replace HB := HB.alloc HB.size (.cells #[.slice none 0 0, .int .i64 0, .int .i64 0, .int .i64 0, .slice none 0 0] 67)
          refine hK _ _ (fun _ => ⟨⟨_, HB⟩, rfl⟩) ?_
          clear hK DA hsz
          refine stepL_at (by rfl) fun K Q' hK => ?_
          go_simp
          refine (L7.out _ HB ((n : Int) + 4) (by omega) (by omega)).mono ?_
          rintro e u6 ⟨rfl, d⟩
          replace KA := KA.below (d.below _)
          replace HB := HB.trans ((d.below _).mono HB.size)
          refine hK _ _ (fun _ => ⟨⟨_, HB⟩, rfl⟩) ?_
          clear hK d
          refine ptL_qs ⟨⟨_, HB⟩, rfl⟩ ?_
          change wpQuiet _ _ _ _ [_] _
          repeat (go_big_quiet_step (fail))
          refine wpQuiet_nil ?_
          refine stepL_at (by rfl) fun K Q' hK => ?_
          go_simp
          refine (L7.out _ HB ((n : Int) + 6) (by omega) (by omega)).mono ?_
          rintro e u7 ⟨rfl, d⟩
          replace KA := KA.below (d.below _)
          replace HB := HB.trans ((d.below _).mono HB.size)
          refine hK _ _ (fun _ => ⟨⟨_, HB⟩, rfl⟩) ?_
          clear hK d
          refine ptL_qs ⟨⟨_, HB⟩, rfl⟩ ?_
          change wpQuiet _ _ _ _ [_] _
          repeat (go_big_quiet_step (fail))
          refine wpQuiet_nil ?_
          refine stepL_at (by rfl) fun K Q' hK => ?_
          go_simp
          refine hK _ _ (fun _ => ⟨⟨_, HB⟩, rfl⟩) ?_
          clear hK
          refine stepL_at (by rfl) fun K Q' hK => ?_
          refine wp_store_row 67 (.tmp 7) (.tmp 57) rfl w2.heap.size #[.slice y L.length q, .int .i64 (pr (n : Int)), .int .i64 (pr ((n : Int) + 2)), .int .i64 (pr ((n : Int) + 4) * 65536 + pr ((n : Int) + 6)), .slice none 0 0] rfl rfl 67 #[.slice none 0 0, .int .i64 0, .int .i64 0, .int .i64 0, .slice none 0 0] KA size_record rfl (by simp [Value.oneCell']) ?_
          refine hK _ _ (fun _ => ⟨⟨_, below_setRow HB (Nat.le_refl _) _⟩, rfl⟩) ?_
          clear hK
          refine ptL_nil ?_
          go_wp2
          go_meet
          exact ⟨rfl, KA.rowIn _, below_setRow HB (Nat.le_refl _) _⟩
      · skip
        refine stepL_at (by rfl) fun K Q' hK => ?_
        go_simp
        have KA : Bl 67 (World.alloc u1 (.cells #[.slice none 0 0, .int .i64 0, .int .i64 0, .int .i64 0, .slice none 0 0] 67)) (World.heap u1).size #[.slice none 0 0, .int .i64 0, .int .i64 0, .int .i64 0, .slice none 0 0] := Bl.new 67 _ #[.slice none 0 0, .int .i64 0, .int .i64 0, .int .i64 0, .slice none 0 0]
        have hsz := congrArg Array.size DA.heap
        rw [hsz] at KA ⊢
        replace HB := HB.alloc HB.size (.cells #[.slice none 0 0, .int .i64 0, .int .i64 0, .int .i64 0, .slice none 0 0] 67)
        refine hK _ _ (fun _ => ⟨⟨_, HB⟩, rfl⟩) ?_
        clear hK DA hsz
        refine stepL_at (by rfl) fun K Q' hK => ?_
        go_simp
        refine (L7.out _ HB ((n : Int) + 2) (by omega) (by omega)).mono ?_
        rintro e u8 ⟨rfl, d⟩
        replace KA := KA.below (d.below _)
        replace HB := HB.trans ((d.below _).mono HB.size)
        refine hK _ _ (fun _ => ⟨⟨_, HB⟩, rfl⟩) ?_
        clear hK d
        refine stepL_at (by rfl) fun K Q' hK => ?_
        go_simp
        refine (L7.out _ HB ((n : Int) + 4) (by omega) (by omega)).mono ?_
        rintro e u9 ⟨rfl, d⟩
        replace KA := KA.below (d.below _)
        replace HB := HB.trans ((d.below _).mono HB.size)
        refine hK _ _ (fun _ => ⟨⟨_, HB⟩, rfl⟩) ?_
        clear hK d
        refine ptL_qs ⟨⟨_, HB⟩, rfl⟩ ?_
        change wpQuiet _ _ _ _ [_] _
        repeat (go_big_quiet_step (fail))
        refine wpQuiet_nil ?_
        refine stepL_at (by rfl) fun K Q' hK => ?_
        go_simp
        refine (L7.out _ HB ((n : Int) + 6) (by omega) (by omega)).mono ?_
        rintro e u10 ⟨rfl, d⟩
        replace KA := KA.below (d.below _)
        replace HB := HB.trans ((d.below _).mono HB.size)
        refine hK _ _ (fun _ => ⟨⟨_, HB⟩, rfl⟩) ?_
        clear hK d
        refine ptL_qs ⟨⟨_, HB⟩, rfl⟩ ?_
        change wpQuiet _ _ _ _ [_] _
        repeat (go_big_quiet_step (fail))
        refine wpQuiet_nil ?_
        refine stepL_at (by rfl) fun K Q' hK => ?_
        go_simp
        refine hK _ _ (fun _ => ⟨⟨_, HB⟩, rfl⟩) ?_
        clear hK
        refine stepL_at (by rfl) fun K Q' hK => ?_
        refine wp_store_row 67 (.tmp 7) (.tmp 57) rfl w2.heap.size #[.slice y L.length q, .int .i64 (pr (n : Int)), .int .i64 (pr ((n : Int) + 2)), .int .i64 (pr ((n : Int) + 4) * 65536 + pr ((n : Int) + 6)), .slice none 0 0] rfl rfl 67 #[.slice none 0 0, .int .i64 0, .int .i64 0, .int .i64 0, .slice none 0 0] KA size_record rfl (by simp [Value.oneCell']) ?_
        refine hK _ _ (fun _ => ⟨⟨_, below_setRow HB (Nat.le_refl _) _⟩, rfl⟩) ?_
        clear hK
        refine ptL_nil ?_
        go_wp2
        go_meet
        exact ⟨rfl, KA.rowIn _, below_setRow HB (Nat.le_refl _) _⟩
    · skip
      refine stepL_at (by rfl) fun K Q' hK => ?_
      go_simp
      have KA : Bl 67 (World.drew (World.alloc w2 (.cells #[.slice none 0 0, .int .i64 0, .int .i64 0, .int .i64 0, .slice none 0 0] 67))) w2.heap.size #[.slice none 0 0, .int .i64 0, .int .i64 0, .int .i64 0, .slice none 0 0] := Bl.new 67 w2 #[.slice none 0 0, .int .i64 0, .int .i64 0, .int .i64 0, .slice none 0 0]
      replace HB : Below w2.heap.size w2 (World.drew (World.alloc w2 (.cells #[.slice none 0 0, .int .i64 0, .int .i64 0, .int .i64 0, .slice none 0 0] 67))) := ((Below.refl _ _).alloc (Nat.le_refl _) _).drew
      refine hK _ _ (fun _ => ⟨⟨_, HB⟩, rfl⟩) ?_
      clear hK DA
      refine stepL_at (by rfl) fun K Q' hK => ?_
      go_simp
      refine (L7.out _ HB (n : Int) (by omega) (by omega)).mono ?_
      rintro e u11 ⟨rfl, d⟩
      replace KA := KA.below (d.below _)
      replace HB := HB.trans ((d.below _).mono HB.size)
      refine hK _ _ (fun _ => ⟨⟨_, HB⟩, rfl⟩) ?_
      clear hK d
      refine stepL_at (by rfl) fun K Q' hK => ?_
      go_simp
      refine (L7.out _ HB ((n : Int) + 2) (by omega) (by omega)).mono ?_
      rintro e u12 ⟨rfl, d⟩
      replace KA := KA.below (d.below _)
      replace HB := HB.trans ((d.below _).mono HB.size)
      refine hK _ _ (fun _ => ⟨⟨_, HB⟩, rfl⟩) ?_
      clear hK d
      refine stepL_at (by rfl) fun K Q' hK => ?_
      go_simp
      refine (L7.out _ HB ((n : Int) + 4) (by omega) (by omega)).mono ?_
      rintro e u13 ⟨rfl, d⟩
      replace KA := KA.below (d.below _)
      replace HB := HB.trans ((d.below _).mono HB.size)
      refine hK _ _ (fun _ => ⟨⟨_, HB⟩, rfl⟩) ?_
      clear hK d
      refine ptL_qs ⟨⟨_, HB⟩, rfl⟩ ?_
      change wpQuiet _ _ _ _ [_] _
      repeat (go_big_quiet_step (fail))
      refine wpQuiet_nil ?_
      refine stepL_at (by rfl) fun K Q' hK => ?_
      go_simp
      refine (L7.out _ HB ((n : Int) + 6) (by omega) (by omega)).mono ?_
      rintro e u14 ⟨rfl, d⟩
      replace KA := KA.below (d.below _)
      replace HB := HB.trans ((d.below _).mono HB.size)
      refine hK _ _ (fun _ => ⟨⟨_, HB⟩, rfl⟩) ?_
      clear hK d
      refine ptL_qs ⟨⟨_, HB⟩, rfl⟩ ?_
      change wpQuiet _ _ _ _ [_] _
      repeat (go_big_quiet_step (fail))
      refine wpQuiet_nil ?_
      refine stepL_at (by rfl) fun K Q' hK => ?_
      go_simp
      refine hK _ _ (fun _ => ⟨⟨_, HB⟩, rfl⟩) ?_
      clear hK
      refine stepL_at (by rfl) fun K Q' hK => ?_
      refine wp_store_row 67 (.tmp 7) (.tmp 57) rfl w2.heap.size #[.slice y L.length q, .int .i64 (pr (n : Int)), .int .i64 (pr ((n : Int) + 2)), .int .i64 (pr ((n : Int) + 4) * 65536 + pr ((n : Int) + 6)), .slice none 0 0] rfl rfl 67 #[.slice none 0 0, .int .i64 0, .int .i64 0, .int .i64 0, .slice none 0 0] KA size_record rfl (by simp [Value.oneCell']) ?_
      refine hK _ _ (fun _ => ⟨⟨_, below_setRow HB (Nat.le_refl _) _⟩, rfl⟩) ?_
      clear hK
      refine ptL_nil ?_
      go_wp2
      go_meet
      exact ⟨rfl, KA.rowIn _, below_setRow HB (Nat.le_refl _) _⟩
  case rest =>
    obtain ⟨rfl, kr, b3⟩ := hcut
    have K3 := hid (K2.out.below b3)
    have B3 := hid (grown_on B2.out b3)
    have S3 := hid b3
    have KR := hid kr
    have hw2 : w.heap.size < w2.heap.size := K2.out.lt
    have H24 := hid b3
    clear t0 kr K2 S3 T2 B2
    go_wp2_with fail
    refine (L7.out wc b3 ((n : Int) + 8) (by omega) (by omega)).mono ?_
    rintro e w4 ⟨rfl, d4⟩
    rw [HP8.out]
    replace K3 := hid (K3.out.below (d4.below _))
    replace B3 := hid (B3.out.trans ((d4.below _).mono B3.out.size))
    replace H24 := hid (H24.out.trans ((d4.below _).mono H24.out.size))
    replace KR := hid (KR.out.below (d4.below _))
    clear d4 b3
    have hne : ¬ ms = [] := fun q => by rw [q] at c10; simp at c10; omega
    obtain ⟨zb, zo, rfl, hzl, hzq⟩ : ∃ b off, x = some ⟨b, off, none⟩ ∧ b < w.heap.size ∧ ∀ i, i < ms.length → w.cell? ⟨b, off + i, none⟩ = some (.int .u8 (ms.getD i 0)) := by
      rcases HH.out.2.2.2 with q | q
      · exact absurd q hne
      · exact q
    have hc := bys_sub hzl hcap (by omega) HBS.out hzq (n + 10) d (by omega)
    have hcl : (Nm.cut ms (n + 10) d).length = d := Nm.cut_length (by omega)
    have HCL := hid hcl
    have HBB := hid hc
    clear hc hcl hzq
    have v4 := KR.out.cell (i := 4) rfl
    have f4 := KR.out.frozen 4
    have j1 : (n : Int) + 10 ≤ (n : Int) + 10 + (d : Int) := by omega
    have j2 : (n : Int) + 10 + (d : Int) ≤ (c : Int) := by omega
    go_upto_region 9 with fail
    by_cases c4 : c = n + 10
    · skip
      have e0 : d = 0 := by omega
      have HZ : Hid (Bys w (some ⟨zb, zo, none⟩) 0 (Nm.cut ms (n + 10) d)) := hid (by rw [List.length_eq_zero_iff.1 (HCL.out.trans e0)]; exact Bys.nil w _ _)
      clear e0
      go_upto_region 10 with fail
      have KR5 : Hid (Bl 67 (w4.setCell ⟨w2.heap.size, 4, none⟩ (.slice (some (⟨zb, zo, none⟩ : Addr)) d 0)) w2.heap.size #[.slice y L.length q, .int .i64 (pr (n : Int)), .int .i64 (pr ((n : Int) + 2)), .int .i64 (pr ((n : Int) + 4) * 65536 + pr ((n : Int) + 6)), .slice (some (⟨zb, zo, none⟩ : Addr)) d 0]) := hid (KR.out.set 4 _)
      have K5 := hid (K3.out.far (p := ⟨w2.heap.size, 4, none⟩) (by simp only; omega) (.slice (some (⟨zb, zo, none⟩ : Addr)) d 0))
      have B5 := hid (B3.out.setCell (p := ⟨w2.heap.size, 4, none⟩) (by simp only; omega) (.slice (some (⟨zb, zo, none⟩ : Addr)) d 0))
      have S5 := hid (S2.out.below (H24.out.setCell (p := ⟨w2.heap.size, 4, none⟩) (Nat.le_refl _) (.slice (some (⟨zb, zo, none⟩ : Addr)) d 0)))
      clear v4 f4 K3 B3 S2 H24 KR
      generalize w4.setCell ⟨w2.heap.size, 4, none⟩ (.slice (some (⟨zb, zo, none⟩ : Addr)) d 0) = w5 at *
      have r0 := KR5.out.cell (i := 0) rfl
      have r1 := KR5.out.cell (i := 1) rfl
      have r2 := KR5.out.cell (i := 2) rfl
      have r3 := KR5.out.cell (i := 3) rfl
      have r4 := KR5.out.cell (i := 4) rfl
      have c0' := K5.out.cell (i := 0) rfl
      have f0 := K5.out.frozen 0
      have c1' := K5.out.cell (i := 1) rfl
      have f1 := K5.out.frozen 1
      have c2' := K5.out.cell (i := 2) rfl
      have f2 := K5.out.frozen 2
      have c3' := K5.out.cell (i := 3) rfl
      have f3 := K5.out.frozen 3
      have c4' := K5.out.cell (i := 4) rfl
      have f4 := K5.out.frozen 4
      have c5' := K5.out.cell (i := 5) rfl
      have f5 := K5.out.frozen 5
      have c6' := K5.out.cell (i := 6) rfl
      have f6 := K5.out.frozen 6
      have c7' := K5.out.cell (i := 7) rfl
      have f7 := K5.out.frozen 7
      go_wp2_with fail
      refine bodyPost_ret (results_recat _ _ w.heap.size _ _ _ _ _ _ _ _ rfl (K5.out.put8 _ _ _ _ _ _ _ _)) rfl ?_
      unfold RecPost
      rw [HRR.out]
      simp only [List.length_map, HCL.out]
      exact Or.inl ⟨trivial, y, q, some ⟨zb, zo, none⟩, 0, _, rfl, S5.out.far8 (fun a ha => by have := F1.out a ha; omega) _ _ _ _ _ _ _ _, fun a ha => by have := F1.out a ha; omega, HZ.out, fun h => (by cases h), fun a ha => (by cases ha; exact HX.out (⟨zb, zo, none⟩ : Addr) rfl), below_put8 B5.out (Nat.le_refl _) _ _ _ _ _ _ _ _⟩
    · skip
      have HZ := HBB
      go_upto_region 10 with fail
      have KR5 : Hid (Bl 67 (w4.setCell ⟨w2.heap.size, 4, none⟩ (.slice (some (⟨zb, zo + (n + 10), none⟩ : Addr)) d (c - (n + 10)))) w2.heap.size #[.slice y L.length q, .int .i64 (pr (n : Int)), .int .i64 (pr ((n : Int) + 2)), .int .i64 (pr ((n : Int) + 4) * 65536 + pr ((n : Int) + 6)), .slice (some (⟨zb, zo + (n + 10), none⟩ : Addr)) d (c - (n + 10))]) := hid (KR.out.set 4 _)
      have K5 := hid (K3.out.far (p := ⟨w2.heap.size, 4, none⟩) (by simp only; omega) (.slice (some (⟨zb, zo + (n + 10), none⟩ : Addr)) d (c - (n + 10))))
      have B5 := hid (B3.out.setCell (p := ⟨w2.heap.size, 4, none⟩) (by simp only; omega) (.slice (some (⟨zb, zo + (n + 10), none⟩ : Addr)) d (c - (n + 10))))
      have S5 := hid (S2.out.below (H24.out.setCell (p := ⟨w2.heap.size, 4, none⟩) (Nat.le_refl _) (.slice (some (⟨zb, zo + (n + 10), none⟩ : Addr)) d (c - (n + 10)))))
      clear v4 f4 K3 B3 S2 H24 KR
      generalize w4.setCell ⟨w2.heap.size, 4, none⟩ (.slice (some (⟨zb, zo + (n + 10), none⟩ : Addr)) d (c - (n + 10))) = w5 at *
      have r0 := KR5.out.cell (i := 0) rfl
      have r1 := KR5.out.cell (i := 1) rfl
      have r2 := KR5.out.cell (i := 2) rfl
      have r3 := KR5.out.cell (i := 3) rfl
      have r4 := KR5.out.cell (i := 4) rfl
      have c0' := K5.out.cell (i := 0) rfl
      have f0 := K5.out.frozen 0
      have c1' := K5.out.cell (i := 1) rfl
      have f1 := K5.out.frozen 1
      have c2' := K5.out.cell (i := 2) rfl
      have f2 := K5.out.frozen 2
      have c3' := K5.out.cell (i := 3) rfl
      have f3 := K5.out.frozen 3
      have c4' := K5.out.cell (i := 4) rfl
      have f4 := K5.out.frozen 4
      have c5' := K5.out.cell (i := 5) rfl
      have f5 := K5.out.frozen 5
      have c6' := K5.out.cell (i := 6) rfl
      have f6 := K5.out.frozen 6
      have c7' := K5.out.cell (i := 7) rfl
      have f7 := K5.out.frozen 7
      go_wp2_with fail
      refine bodyPost_ret (results_recat _ _ w.heap.size _ _ _ _ _ _ _ _ rfl (K5.out.put8 _ _ _ _ _ _ _ _)) rfl ?_
      unfold RecPost
      rw [HRR.out]
      simp only [List.length_map, HCL.out]
      exact Or.inl ⟨trivial, y, q, some ⟨zb, zo + (n + 10), none⟩, (c - (n + 10)), _, rfl, S5.out.far8 (fun a ha => by have := F1.out a ha; omega) _ _ _ _ _ _ _ _, fun a ha => by have := F1.out a ha; omega, HZ.out, fun h => (by cases h), fun a ha => (by cases ha; exact HX.out (⟨zb, zo, none⟩ : Addr) rfl), below_put8 B5.out (Nat.le_refl _) _ _ _ _ _ _ _ _⟩

end Go.Proofs.YtbbgabdiikdjpaaDoor
