/-
  The walk of the document's own answer Unlike.
-/
import Derived.Test.YtoakpkpdipgfoaaTrRows
namespace Go.Proofs.Ytoakpkpdipgfoaa
open Go.RowKit Go.Deep

/-- The first k can be put, and no two of them are for the same bits. -/
def UnN (P : List Bg) (k : Nat) : Prop := ∀ i (h : i < P.length), i < k → RightB P[i] ∧ freshUp P i i = true

/-- What Unlike hands back. -/
def UnP (P : List Bg) (w : World) (e : Ending) (w' : World) : Prop := ∃ r, e = .returned (.bool r) ∧ (r = true → UnN P P.length) ∧ Below w.heap.size w w'

set_option maxHeartbeats 4000000 in
set_option maxRecDepth 100000 in
theorem unlike_any {x : Option Addr} {c l B : Nat} (P : List Bg) (w : World) (h : Bgs w B x c P) (hin : ∀ b ∈ P, b.e.in w) (hl : P.length = l) (h60 : P.length ≤ 100000) :
    Calls Try.prog 7 #[.slice x l c] w (UnP P w) := by
  subst hl
  have HH := hid h
  have HIN := hid hin
  clear h hin
  go_enter Try.func7, Try.ntmps7
  go_wp2
  go_loopw [3] (fun i wr => ∃ k : Nat, k ≤ P.length ∧ i = .int .i64 (k : Int) ∧ UnN P k ∧ Below w.heap.size w wr) (fun i _ => P.length - (intOf i).toNat)
  case atStart => exact ⟨0, Nat.zero_le _, rfl, fun i _ hlt => absurd hlt (by omega), Below.refl _ _⟩
  case round =>
    obtain ⟨k, hk, rfl, hun, hbl⟩ := hrel
    obtain ⟨w3, hw3⟩ : ∃ u, u = wr := ⟨_, rfl⟩
    subst hw3
    have HU := hid hun
    have HB := hid hbl
    by_cases ck : k < P.length
    · have ck' : (k : Int) < (P.length : Int) := by omega
      obtain ⟨g, hx, _, x0, x1, x2⟩ := (HH.out.below hbl).at ck
      subst hx
      have hEin := HIN.out _ (List.getElem_mem ck)
      clear hun hbl
      cases cr : decide (RightB P[k]) with
      | false =>
        have CR := hid (right_at false P[k].e P[k].n P[k].val w3 hEin.1.2.1 cr)
        generalize P[k] = F at *
        go_wp2_with (go_at_call 13; refine CR.out.mono ?_; rintro e w4 ⟨rfl, d4⟩)
        go_ret
        exact ⟨false, rfl, fun q => (by cases q), HB.out.trans (d4.mono HB.out.size)⟩
      | true =>
        have hrk : RightB P[k] := of_decide_eq_true cr
        have HRK := hid hrk
        have CR := hid (right_at true P[k].e P[k].n P[k].val w3 hEin.1.2.1 cr)
        have HPK := hid (show P[k] = P[k] from rfl)
        obtain ⟨F, hF⟩ : ∃ F, P[k] = F := ⟨_, rfl⟩
        rw [hF] at x0 x1 x2 CR
        have HF := hid hF
        clear hF hrk hEin HPK
        go_upto_region 6 with (go_at_call 13; refine CR.out.mono ?_; rintro e w4 ⟨rfl, d4⟩)
        have HB4 := hid (HB.out.trans (d4.mono HB.out.size))
        clear x0 x1 x2 CR d4
        go_wp2
        go_loopw [4] (fun j wr => ∃ t : Nat, t ≤ k ∧ j = .int .i64 (t : Int) ∧ freshUp P k t = true ∧ Drawn w4 wr) (fun j _ => k - (intOf j).toNat)
        case atStart => exact ⟨0, Nat.zero_le _, rfl, rfl, Drawn.refl w4⟩
        case round =>
          obtain ⟨t, ht, rfl, hfr, hdr2⟩ := hrel
          have HFR := hid hfr
          clear hfr
          by_cases ct : t < k
          · have ct' : (t : Int) < (k : Int) := by omega
            have htl : t < P.length := by omega
            have htl' : (t : Int) < (P.length : Int) := by omega
            have hb4 := HB4.out.trans (hdr2.below _)
            obtain ⟨g', hx', _, x0, x1, _⟩ := (HH.out.below hb4).at htl
            simp only [Option.some.injEq, Addr.mk.injEq] at hx'
            obtain ⟨rfl, _⟩ := hx'
            obtain ⟨g', hx', _, z0, z1, _⟩ := (HH.out.below hb4).at ck
            simp only [Option.some.injEq, Addr.mk.injEq] at hx'
            obtain ⟨rfl, _⟩ := hx'
            have CA := hid fun (u : World) (hu : Drawn wr u) (hn : P[t].n = P[k].n) => alike_q ((HIN.out _ (List.getElem_mem htl)).below (hb4.trans (hu.below _))) ((HIN.out _ (List.getElem_mem ck)).below (hb4.trans (hu.below _))) (HU.out t htl ct).1 HRK.out hn
            have HSM : Hid (sameB P t k = decide (P[t].n = P[k].n ∧ Al P[t].e.A P[k].e.A P[k].n.toNat)) := hid (by
              unfold sameB
              rw [List.getD_eq_getElem?_getD, List.getD_eq_getElem?_getD, List.getElem?_eq_getElem htl, List.getElem?_eq_getElem ck]
              rfl)
            have HFS := hid (freshUp_succ P k t)
            rw [HF.out] at CA HSM z0 z1
            clear hb4
            generalize P[t] = E at *
            by_cases cn : E.n = F.n
            · have cn' : (E.n == F.n) = true := by rw [cn]; simp
              have CQ := hid fun u hu => CA.out u hu cn
              cases cal : decide (Al E.e.A F.e.A F.n.toNat) with
              | true =>
                rw [cal] at CQ
                go_wp2
                go_quiet ((go_at_call 11; exact Calls.quiet_of_same (CQ.out _ ⟨_, rfl⟩)))
                go_wp2
                go_ret
                exact ⟨false, rfl, fun q => (by cases q), HB4.out.trans ((hdr2.more _).below _)⟩
              | false =>
                have hs : freshUp P k (t + 1) = true := by
                  rw [HFS.out, HSM.out, HFR.out, decide_eq_false (fun q => by have := of_decide_eq_false cal; exact this q.2)]; simp
                have HS := hid hs
                rw [cal] at CQ
                clear hs
                go_wp2
                go_quiet ((go_at_call 11; exact Calls.quiet_of_same (CQ.out _ ⟨_, rfl⟩)))
                go_wp2
                go_roundw
                case rel => exact ⟨t + 1, by omega, by go_num, HS.out, hdr2.more _⟩
                case measure => simp [intOf]; omega
            · have cn' : (E.n == F.n) = false := by simpa using cn
              have hs : freshUp P k (t + 1) = true := by
                rw [HFS.out, HSM.out, HFR.out, decide_eq_false (fun q => cn q.1)]; simp
              have HS := hid hs
              clear hs
              go_wp2
              go_quiet (fail)
              go_wp2
              go_roundw
              case rel => exact ⟨t + 1, by omega, by go_num, HS.out, hdr2.more _⟩
              case measure => simp [intOf]; omega
          · have ct' : ¬ (t : Int) < (k : Int) := by omega
            obtain rfl : t = k := by omega
            go_wp2
            go_roundw
            case rel =>
              refine ⟨t + 1, by omega, by go_num, fun i hi hlt => ?_, HB4.out.trans (hdr2.below _)⟩
              rcases Nat.lt_or_ge i t with q | q
              · exact HU.out i hi q
              · obtain rfl : i = t := by omega
                exact ⟨HRK.out, HFR.out⟩
            case measure => simp [intOf]; omega
    · have ck' : ¬ (k : Int) < (P.length : Int) := by omega
      obtain rfl : k = P.length := by omega
      go_wp2
      go_ret
      exact ⟨true, rfl, fun _ => HU.out, HB.out⟩

end Go.Proofs.Ytoakpkpdipgfoaa
