/-
  The walks of the document's own answers on beginnings: Right, Kinds, Unlike, Longest.
-/
import Derived.Test.YtoakpkpdipgfoaaDoorTrTried
import Derived.Test.YtoakpkpdipgfoaaDoorRefS2
import Derived.BigQuiet
namespace Go.Proofs.YtoakpkpdipgfoaaDoor
open Go.RowKit Go.Deep

/-- One that can be put. -/
def RightB (b : Bg) : Prop := b.e.A.length ≤ 16 ∧ 0 ≤ b.n ∧ b.n ≤ 8 * (b.e.A.length : Int)

instance (b : Bg) : Decidable (RightB b) := inferInstanceAs (Decidable (_ ∧ _ ∧ _))

set_option maxHeartbeats 1000000 in
set_option maxRecDepth 100000 in
theorem right_at (r : Bool) (E : Bv) (n v : Int) (w : World) (hl : E.A.length ≤ 200000000000000) (hr : decide (RightB ⟨E, n, v⟩) = r) :
    Calls Tryd.prog 6 #[.agg #[.slice E.x E.A.length E.c, .int .i64 n, .int .i64 v]] w fun e w' => e = .returned (.bool r) ∧ Below w.heap.size w w' := by
  have B0 := hid ((Below.refl w.heap.size w).alloc (Nat.le_refl _) (.cells #[.slice E.x E.A.length E.c, .int .i64 n, .int .i64 v] 32))
  subst hr
  by_cases c1 : E.A.length ≤ 16
  · have c1' : (E.A.length : Int) ≤ 16 := by omega
    by_cases c2 : 0 ≤ n
    · by_cases c3 : n ≤ 8 * (E.A.length : Int)
      · rw [decide_eq_true (show RightB ⟨E, n, v⟩ from ⟨c1, c2, c3⟩)]
        go_enter Tryd.func6, Tryd.ntmps6
        go_wp2
        go_ret
        exact ⟨rfl, B0.out⟩
      · rw [decide_eq_false (show ¬ RightB ⟨E, n, v⟩ from fun q => c3 q.2.2)]
        go_enter Tryd.func6, Tryd.ntmps6
        go_wp2
        go_ret
        exact ⟨rfl, B0.out⟩
    · rw [decide_eq_false (show ¬ RightB ⟨E, n, v⟩ from fun q => c2 q.2.1)]
      go_enter Tryd.func6, Tryd.ntmps6
      go_wp2
      go_ret
      exact ⟨rfl, B0.out⟩
  · have c1' : ¬ (E.A.length : Int) ≤ 16 := by omega
    rw [decide_eq_false (show ¬ RightB ⟨E, n, v⟩ from fun q => c1 q.1)]
    go_enter Tryd.func6, Tryd.ntmps6
    go_wp2
    go_ret
    exact ⟨rfl, B0.out⟩

instance : Inhabited Bg := ⟨⟨default, 0, 0⟩⟩

/-- For the same bits. -/
def sameB (P : List Bg) (j i : Nat) : Bool := decide ((P.getD j default).n = (P.getD i default).n ∧ Al (P.getD j default).e.A (P.getD i default).e.A (P.getD i default).n.toNat)

def freshUp (P : List Bg) (i t : Nat) : Bool := !((List.range t).any fun j => sameB P j i)

theorem freshUp_succ (P : List Bg) (i t : Nat) : freshUp P i (t + 1) = (freshUp P i t && !sameB P t i) := by
  unfold freshUp
  rw [List.range_succ, List.any_append]
  simp

def kN (P : List Bg) (k : Nat) : Nat := ((List.range k).filter fun i => freshUp P i i).length

theorem kN_succ (P : List Bg) (k : Nat) : kN P (k + 1) = kN P k + (if freshUp P k k then 1 else 0) := by
  unfold kN
  rw [List.range_succ, List.filter_append, List.length_append]
  cases h : freshUp P k k <;> simp [h]

theorem kN_le (P : List Bg) (k : Nat) : kN P k ≤ k := by
  induction k with
  | zero => simp [kN]
  | succ k ih => rw [kN_succ]; split <;> omega

/-- Where a beginning's cells lie. -/
theorem Bgs.at {w : World} {B : Nat} {x : Option Addr} {c : Nat} {l : List Bg} (h : Bgs w B x c l) {i : Nat} (hi : i < l.length) :
    ∃ g, x = some ⟨g, 0, none⟩ ∧ g < w.heap.size ∧ w.cell? ⟨g, i * 3, none⟩ = some (.slice (l[i]).e.x (l[i]).e.A.length (l[i]).e.c) ∧ w.cell? ⟨g, i * 3 + 1, none⟩ = some (.int .i64 (l[i]).n) ∧ w.cell? ⟨g, i * 3 + 2, none⟩ = some (.int .i64 (l[i]).val) := by
  rcases h.2 with h2 | ⟨g, cur, hx, _, hh, hc⟩
  · rw [h2] at hi; simp at hi
  · obtain ⟨q0, q1, q2⟩ := hc i hi
    refine ⟨g, hx, ?_, by simp [World.cell?, hh, q0, Bv.v], by simp [World.cell?, hh, q1], by simp [World.cell?, hh, q2]⟩
    rcases Nat.lt_or_ge g w.heap.size with q | q
    · exact q
    · rw [Array.getElem?_eq_none q] at hh; cases hh

theorem Bgs.drawn {w w' : World} {B : Nat} {x : Option Addr} {c : Nat} {l : List Bg} (h : Bgs w B x c l) (k : Drawn w w') : Bgs w' B x c l := h.below (k.below _)

/-- Two beginnings held against each other, in a quiet region. -/
theorem alike_q {w : World} {a b : Bg} (ha : a.e.in w) (hb : b.e.in w) (ra : RightB a) (rb : RightB b) (hn : a.n = b.n) :
    Calls Tryd.prog 18 #[.slice a.e.x a.e.A.length a.e.c, .slice b.e.x b.e.A.length b.e.c, .int .i64 b.n] w fun e w' => e = .returned (.bool (decide (Al a.e.A b.e.A b.n.toNat))) ∧ w' = w := by
  obtain ⟨N, hN⟩ : ∃ N : Nat, b.n = (N : Int) := ⟨b.n.toNat, by have := rb.2.1; omega⟩
  have h1 := ra.2.2
  have h2 := rb.2.2
  rw [hN, Int.toNat_natCast]
  refine (alike_at (decide (Al a.e.A b.e.A N)) a.e.A b.e.A N w ha.1 hb.1 rfl rfl (by omega) (by omega) (by rw [decide_eq_true_iff]; exact Iff.rfl)).mono ?_
  rintro e w' ⟨rfl, rfl⟩
  exact ⟨rfl, rfl⟩

set_option maxHeartbeats 4000000 in
set_option maxRecDepth 100000 in
theorem kinds_any {x : Option Addr} {c l B : Nat} (P : List Bg) (w : World) (h : Bgs w B x c P) (hin : ∀ b ∈ P, b.e.in w) (hr : ∀ b ∈ P, RightB b) (hl : P.length = l) (h60 : P.length ≤ 100000) :
    Calls Tryd.prog 10 #[.slice x l c] w fun e w' => e = .returned (.int .i64 (kN P P.length : Int)) ∧ Drawn w w' := by
  subst hl
  have HH := hid h
  have HIN := hid hin
  have HR := hid hr
  clear h hin hr
  go_enter Tryd.func10, Tryd.ntmps10
  go_wp2
  go_loopw [3, 4] (fun s i wr => ∃ k : Nat, k ≤ P.length ∧ i = .int .i64 (k : Int) ∧ s = .int .i64 (kN P k : Int) ∧ Drawn w wr) (fun _ i _ => P.length - (intOf i).toNat)
  case atStart => exact ⟨0, Nat.zero_le _, rfl, rfl, Drawn.refl w⟩
  case round =>
    obtain ⟨k, hk, rfl, rfl, hdr⟩ := hrel
    obtain ⟨w3, hw3⟩ : ∃ u, u = wr := ⟨_, rfl⟩
    subst hw3
    have hkn := kN_le P k
    by_cases ck : k < P.length
    · have ck' : (k : Int) < (P.length : Int) := by omega
      go_wp2
      go_loopw [5, 6] (fun f j wr => ∃ t : Nat, t ≤ k ∧ j = .int .i64 (t : Int) ∧ f = .bool (freshUp P k t) ∧ Drawn w wr) (fun _ j _ => k - (intOf j).toNat)
      case atStart => exact ⟨0, Nat.zero_le _, rfl, rfl, hdr⟩
      case round =>
        obtain ⟨t, ht, rfl, rfl, hdr2⟩ := hrel
        by_cases ct : t < k
        · have ct' : (t : Int) < (k : Int) := by omega
          have htl : t < P.length := by omega
          have htl' : (t : Int) < (P.length : Int) := by omega
          obtain ⟨g, hx, _, x0, x1, _⟩ := (HH.out.drawn hdr2).at htl
          obtain ⟨g', hx', _, z0, z1, _⟩ := (HH.out.drawn hdr2).at ck
          subst hx
          simp only [Option.some.injEq, Addr.mk.injEq] at hx'
          obtain ⟨rfl, _⟩ := hx'
          have CA := hid fun (u : World) (hu : Drawn wr u) (hn : P[t].n = P[k].n) => alike_q (((HIN.out _ (List.getElem_mem htl)).below ((hdr2.trans hu).below _))) ((HIN.out _ (List.getElem_mem ck)).below ((hdr2.trans hu).below _)) (HR.out _ (List.getElem_mem htl)) (HR.out _ (List.getElem_mem ck)) hn
          have HSM : Hid (sameB P t k = decide (P[t].n = P[k].n ∧ Al P[t].e.A P[k].e.A P[k].n.toNat)) := hid (by
            unfold sameB
            rw [List.getD_eq_getElem?_getD, List.getD_eq_getElem?_getD, List.getElem?_eq_getElem htl, List.getElem?_eq_getElem ck]
            rfl)
          have HFS := hid (freshUp_succ P k t)
          generalize P[t] = E at *
          generalize P[k] = F at *
          by_cases cn : E.n = F.n
          · have cn' : (E.n == F.n) = true := by rw [cn]; simp
            cases cal : decide (Al E.e.A F.e.A F.n.toNat) with
            | true =>
              have hs : freshUp P k (t + 1) = false := by
                rw [HFS.out, HSM.out, decide_eq_true ⟨cn, of_decide_eq_true cal⟩]; simp
              have CQ := hid fun u hu => CA.out u hu cn
              rw [cal] at CQ
              go_wp2
              go_quiet ((go_at_call 18; exact Calls.quiet_of_same (CQ.out _ ⟨_, rfl⟩)))
              go_wp2
              go_roundw
              case rel => exact ⟨t + 1, by omega, by go_num, by rw [hs], hdr2.more _⟩
              case measure => simp [intOf]; omega
            | false =>
              have hs : freshUp P k (t + 1) = freshUp P k t := by
                rw [HFS.out, HSM.out, decide_eq_false (fun q => by have := of_decide_eq_false cal; exact this q.2)]; simp
              have CQ := hid fun u hu => CA.out u hu cn
              rw [cal] at CQ
              go_wp2
              go_quiet ((go_at_call 18; exact Calls.quiet_of_same (CQ.out _ ⟨_, rfl⟩)))
              go_wp2
              go_roundw
              case rel => exact ⟨t + 1, by omega, by go_num, by rw [hs], hdr2.more _⟩
              case measure => simp [intOf]; omega
          · have cn' : (E.n == F.n) = false := by simpa using cn
            have hs : freshUp P k (t + 1) = freshUp P k t := by
              rw [HFS.out, HSM.out, decide_eq_false (fun q => cn q.1)]; simp
            go_wp2
            go_quiet (fail)
            go_wp2
            go_roundw
            case rel => exact ⟨t + 1, by omega, by go_num, by rw [hs], hdr2.more _⟩
            case measure => simp [intOf]; omega
        · have ct' : ¬ (t : Int) < (k : Int) := by omega
          obtain rfl : t = k := by omega
          have HKS := hid (kN_succ P t)
          cases hf : freshUp P t t with
          | true =>
            rw [hf] at HKS
            go_wp2
            go_roundw
            case rel => exact ⟨t + 1, by omega, by go_num, by rw [HKS.out]; simp, hdr2⟩
            case measure => simp [intOf]; omega
          | false =>
            rw [hf] at HKS
            go_wp2
            go_roundw
            case rel => exact ⟨t + 1, by omega, by go_num, by rw [HKS.out]; simp, hdr2⟩
            case measure => simp [intOf]; omega
    · have ck' : ¬ (k : Int) < (P.length : Int) := by omega
      obtain rfl : k = P.length := by omega
      go_wp2
      go_ret
      exact ⟨rfl, hdr⟩

end Go.Proofs.YtoakpkpdipgfoaaDoor
