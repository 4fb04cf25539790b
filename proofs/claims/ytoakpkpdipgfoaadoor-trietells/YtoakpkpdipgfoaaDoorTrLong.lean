/-
  The walk of the document's own answer Longest.
-/
import Derived.Test.YtoakpkpdipgfoaaDoorTrInv
namespace Go.Proofs.YtoakpkpdipgfoaaDoor
open Go.RowKit Go.Deep

theorem LongAt.next_no {P : List Bg} {Q : List Int} {k : Nat} {b : Int} (h : LongAt P Q k b) (hk : k < P.length) (hn : ¬ fitB P[k] Q) : LongAt P Q (k + 1) b := by
  rcases h with ⟨e, h⟩ | ⟨t, ht, htk, e, hf, hm⟩
  · refine Or.inl ⟨e, fun j hj hlt => ?_⟩
    rcases Nat.lt_or_ge j k with z | z
    · exact h j hj z
    · obtain rfl : j = k := by omega
      exact hn
  · refine Or.inr ⟨t, ht, by omega, e, hf, fun j hj hlt hfj => ?_⟩
    rcases Nat.lt_or_ge j k with z | z
    · exact hm j hj z hfj
    · obtain rfl : j = k := by omega
      exact absurd hfj hn

theorem LongAt.next_first {P : List Bg} {Q : List Int} {k : Nat} {b : Int} (h : LongAt P Q k b) (hk : k < P.length) (hf : fitB P[k] Q) (hb : b < 0) : LongAt P Q (k + 1) (k : Int) := by
  rcases h with ⟨_, h⟩ | ⟨t, ht, htk, e, _, hm⟩
  · refine Or.inr ⟨k, hk, by omega, rfl, hf, fun j hj hlt hfj => ?_⟩
    rcases Nat.lt_or_ge j k with z | z
    · exact absurd hfj (h j hj z)
    · obtain rfl : j = k := by omega
      exact ⟨Int.le_refl _, fun _ => Nat.le_refl _⟩
  · omega

theorem LongAt.next_more {P : List Bg} {Q : List Int} {k t : Nat} (h : LongAt P Q k (t : Int)) (hk : k < P.length) (ht : t < P.length) (hf : fitB P[k] Q) (hg : P[t].n ≤ P[k].n) : LongAt P Q (k + 1) (k : Int) := by
  rcases h with ⟨e, _⟩ | ⟨t', ht', htk, e, _, hm⟩
  · omega
  · obtain rfl : t = t' := by omega
    refine Or.inr ⟨k, hk, by omega, rfl, hf, fun j hj hlt hfj => ?_⟩
    rcases Nat.lt_or_ge j k with z | z
    · exact ⟨by have := (hm j hj z hfj).1; omega, fun _ => by omega⟩
    · obtain rfl : j = k := by omega
      exact ⟨Int.le_refl _, fun _ => Nat.le_refl _⟩

theorem LongAt.next_less {P : List Bg} {Q : List Int} {k t : Nat} (h : LongAt P Q k (t : Int)) (hk : k < P.length) (ht : t < P.length) (hg : ¬ P[t].n ≤ P[k].n) : LongAt P Q (k + 1) (t : Int) := by
  rcases h with ⟨e, _⟩ | ⟨t', ht', htk, e, hf, hm⟩
  · omega
  · obtain rfl : t = t' := by omega
    refine Or.inr ⟨t, ht, by omega, rfl, hf, fun j hj hlt hfj => ?_⟩
    rcases Nat.lt_or_ge j k with z | z
    · exact hm j hj z hfj
    · obtain rfl : j = k := by omega
      exact ⟨by omega, fun q => by omega⟩

theorem LongAt.in {P : List Bg} {Q : List Int} {k : Nat} {b : Int} (h : LongAt P Q k b) : b = -1 ∨ ∃ t, ∃ _ : t < P.length, t < k ∧ b = (t : Int) := by
  rcases h with ⟨e, _⟩ | ⟨t, ht, htk, e, _⟩
  · exact Or.inl e
  · exact Or.inr ⟨t, ht, htk, e⟩

/-- One held against an address, in a quiet region. -/
theorem alike_f {w : World} {a : Bg} {x : Option Addr} {c : Nat} {Q : List Int} (ha : a.e.in w) (hq : Bys w x c Q) (ra : RightB a) (hn : a.n ≤ 8 * (Q.length : Int)) :
    Calls Tryd.prog 18 #[.slice a.e.x a.e.A.length a.e.c, .slice x Q.length c, .int .i64 a.n] w fun e w' => e = .returned (.bool (decide (Al a.e.A Q a.n.toNat))) ∧ w' = w := by
  obtain ⟨N, hN⟩ : ∃ N : Nat, a.n = (N : Int) := ⟨a.n.toNat, by have := ra.2.1; omega⟩
  have h1 := ra.2.2
  rw [hN, Int.toNat_natCast]
  refine (alike_at (decide (Al a.e.A Q N)) a.e.A Q N w ha.1 hq rfl rfl (by omega) (by omega) (by rw [decide_eq_true_iff]; exact Iff.rfl)).mono ?_
  rintro e w' ⟨rfl, rfl⟩
  exact ⟨rfl, rfl⟩

set_option maxHeartbeats 4000000 in
set_option maxRecDepth 100000 in
theorem longest_any {x y : Option Addr} {c l B cq lq : Nat} (P : List Bg) (Q : List Int) (w : World) (h : Bgs w B x c P) (hin : ∀ b ∈ P, b.e.in w) (hr : ∀ b ∈ P, RightB b) (hl : P.length = l) (h60 : P.length ≤ 100000) (hQ : Bys w y cq Q) (hlq : Q.length = lq) :
    Calls Tryd.prog 12 #[.slice x l c, .slice y lq cq] w fun e w' => ∃ b, e = .returned (.int .i64 b) ∧ LongAt P Q P.length b ∧ Below w.heap.size w w' := by
  subst hl hlq
  have HH := hid h
  have HIN := hid hin
  have HR := hid hr
  have HQ := hid hQ
  have hql := hQ.2.1
  clear h hin hr hQ
  go_enter Tryd.func12, Tryd.ntmps12
  go_wp2
  go_loopw [5, 6] (fun s i wr => ∃ (k : Nat) (b : Int), k ≤ P.length ∧ i = .int .i64 (k : Int) ∧ s = .int .i64 b ∧ LongAt P Q k b ∧ Below w.heap.size w wr) (fun _ i _ => P.length - (intOf i).toNat)
  case atStart => exact ⟨0, -1, Nat.zero_le _, rfl, rfl, Or.inl ⟨rfl, fun j hj hlt => absurd hlt (by omega)⟩, Below.refl _ _⟩
  case round =>
    obtain ⟨k, b, hk, rfl, rfl, hla, hbl⟩ := hrel
    have HLA := hid hla
    have HB := hid hbl
    by_cases ck : k < P.length
    · have ck' : (k : Int) < (P.length : Int) := by omega
      obtain ⟨g, hx, hgl, x0, x1, x2⟩ := (HH.out.below hbl).at ck
      subst hx
      -- the row of the one that was the longest
      have hbest : b = -1 ∨ ∃ t, ∃ _ : t < P.length, b = (t : Int) ∧ wr.cell? ⟨g, t * 3 + 1, none⟩ = some (.int .i64 P[t].n) := by
        rcases hla.in with e | ⟨t, ht, _, e⟩
        · exact Or.inl e
        · obtain ⟨g', hx', _, _, q1, _⟩ := (HH.out.below hbl).at ht
          simp only [Option.some.injEq, Addr.mk.injEq] at hx'
          obtain ⟨rfl, _⟩ := hx'
          exact Or.inr ⟨t, ht, e, q1⟩
      have CA := hid fun (u : World) (hu : Below wr.heap.size wr u) (hn : P[k].n ≤ 8 * (Q.length : Int)) => alike_f ((HIN.out _ (List.getElem_mem ck)).below (HB.out.trans (hu.mono HB.out.size))) (HQ.out.below (HB.out.trans (hu.mono HB.out.size))) (HR.out _ (List.getElem_mem ck)) hn
      have HNo : Hid (¬ (P[k].n ≤ 8 * (Q.length : Int) ∧ Al P[k].e.A Q P[k].n.toNat) → LongAt P Q (k + 1) b) := hid (fun q => hla.next_no ck q)
      have HFi : Hid (P[k].n ≤ 8 * (Q.length : Int) ∧ Al P[k].e.A Q P[k].n.toNat → b < 0 → LongAt P Q (k + 1) (k : Int)) := hid (fun q z => hla.next_first ck q z)
      have HMo : Hid (∀ t (ht : t < P.length), b = (t : Int) → P[k].n ≤ 8 * (Q.length : Int) ∧ Al P[k].e.A Q P[k].n.toNat → P[t].n ≤ P[k].n → LongAt P Q (k + 1) (k : Int)) := hid (fun t ht e q z => by subst e; exact hla.next_more ck ht q z)
      have HLe : Hid (∀ t (ht : t < P.length), b = (t : Int) → ¬ P[t].n ≤ P[k].n → LongAt P Q (k + 1) (t : Int)) := hid (fun t ht e z => by subst e; exact hla.next_less ck ht z)
      have HBS := hid hbest
      clear hla hbl hbest
      generalize P[k] = E at *
      have HX := hid HH
      have B1 : Below wr.heap.size wr (wr.alloc (.cells #[.slice E.e.x E.e.A.length E.e.c, .int .i64 E.n, .int .i64 E.val] 32)) := (Below.refl wr.heap.size wr).alloc (Nat.le_refl _) _
      have K1 := Bl.new 32 wr #[.slice E.e.x E.e.A.length E.e.c, .int .i64 E.n, .int .i64 E.val]
      go_upto_region 6 with fail
      generalize wr.alloc (.cells #[.slice E.e.x E.e.A.length E.e.c, .int .i64 E.n, .int .i64 E.val] 32) = w1 at *
      have y0 : w1.cell? ⟨wr.heap.size, 0, none⟩ = some (.slice E.e.x E.e.A.length E.e.c) := K1.cell (i := 0) rfl
      have y1 : w1.cell? ⟨wr.heap.size, 1, none⟩ = some (.int .i64 E.n) := K1.cell (i := 1) rfl
      have HB1 := hid B1
      have HBT := hid (HB.out.trans (B1.mono HB.out.size))
      clear K1 B1 x0 x1 x2
      have CQ := hid fun (u : World) (hu : Drawn w1 u) (hn : E.n ≤ 8 * (Q.length : Int)) => CA.out u (HB1.out.trans (hu.below _)) hn
      clear CA
      by_cases c1 : E.n ≤ 8 * (Q.length : Int)
      · cases cal : decide (Al E.e.A Q E.n.toNat) with
        | false =>
          have hno := HNo.out (fun q => of_decide_eq_false cal q.2)
          have HL := hid hno
          have CR := hid fun u hu => CQ.out u hu c1
          rw [cal] at CR
          clear hno CQ
          go_quiet ((go_at_call 18; exact Calls.quiet_of_same (CR.out _ ⟨_, rfl⟩)))
          go_wp2
          go_roundw
          case rel => exact ⟨k + 1, b, by omega, by go_num, rfl, HL.out, HBT.out.trans ((drewN_below w1 nq).mono HBT.out.size)⟩
          case measure => simp [intOf]; omega
        | true =>
          have hfit : E.n ≤ 8 * (Q.length : Int) ∧ Al E.e.A Q E.n.toNat := ⟨c1, of_decide_eq_true cal⟩
          have HF := hid hfit
          have CR := hid fun u hu => CQ.out u hu c1
          rw [cal] at CR
          clear hfit CQ
          rcases HBS.out with rfl | ⟨t, ht, rfl, q1⟩
          · have HL := hid (HFi.out HF.out (by decide))
            go_quiet ((go_at_call 18; exact Calls.quiet_of_same (CR.out _ ⟨_, rfl⟩)))
            go_wp2
            go_roundw
            case rel => exact ⟨k + 1, (k : Int), by omega, by go_num, rfl, HL.out, HBT.out.trans ((drewN_below w1 nq).mono HBT.out.size)⟩
            case measure => simp [intOf]; omega
          · have q1' : w1.cell? ⟨g, t * 3 + 1, none⟩ = some (.int .i64 P[t].n) := by rw [HB1.out.cell (p := ⟨g, t * 3 + 1, none⟩) hgl]; exact q1
            have tb0 : ¬ (t : Int) < 0 := by omega
            have tl : (t : Int) < (P.length : Int) := by omega
            have HM := hid (HMo.out t ht rfl HF.out)
            have HL2 := hid (HLe.out t ht rfl)
            clear q1
            generalize P[t].n = M at *
            by_cases c2 : M ≤ E.n
            · have HL := hid (HM.out c2)
              go_quiet ((go_at_call 18; exact Calls.quiet_of_same (CR.out _ ⟨_, rfl⟩)))
              go_wp2
              go_roundw
              case rel => exact ⟨k + 1, (k : Int), by omega, by go_num, rfl, HL.out, HBT.out.trans ((drewN_below w1 nq).mono HBT.out.size)⟩
              case measure => simp [intOf]; omega
            · have HL := hid (HL2.out c2)
              go_quiet ((go_at_call 18; exact Calls.quiet_of_same (CR.out _ ⟨_, rfl⟩)))
              go_wp2
              go_roundw
              case rel => exact ⟨k + 1, (t : Int), by omega, by go_num, rfl, HL.out, HBT.out.trans ((drewN_below w1 nq).mono HBT.out.size)⟩
              case measure => simp [intOf]; omega
      · have HL := hid (HNo.out (fun q => c1 q.1))
        go_quiet (fail)
        go_wp2
        go_roundw
        case rel => exact ⟨k + 1, b, by omega, by go_num, rfl, HL.out, HBT.out.trans ((drewN_below w1 nq).mono HBT.out.size)⟩
        case measure => simp [intOf]; omega
    · have ck' : ¬ (k : Int) < (P.length : Int) := by omega
      obtain rfl : k = P.length := by omega
      go_wp2
      go_ret
      exact ⟨b, rfl, HLA.out, HB.out⟩

end Go.Proofs.YtoakpkpdipgfoaaDoor
