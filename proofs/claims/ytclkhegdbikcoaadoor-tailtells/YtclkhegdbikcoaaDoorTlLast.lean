/-
  The walk of the document's own answer Last.
-/
import Derived.Test.YtclkhegdbikcoaaDoorTlRef
namespace Go.Proofs.YtclkhegdbikcoaaDoor.Tl
open Go.RowKit Go.Deep Go.Maps

/-- The longest end among the first k. -/
def LastAt (P : List En) (n : List ByteArray) (k : Nat) (b : Int) : Prop :=
  (b = -1 ∧ getT ((P.map En.p).take k) n = none) ∨ ∃ t, ∃ _ : t < P.length, t < k ∧ b = (t : Int) ∧ getT ((P.map En.p).take k) n = some (P[t].e.n.length, P[t].val)

theorem last_take (P : List En) (k : Nat) (hk : k < P.length) : (P.map En.p).take (k + 1) = (P.map En.p).take k ++ [(P[k].e.n, P[k].val)] := by
  rw [List.take_succ_eq_append_getElem (by simpa using hk), List.getElem_map]
  rfl

theorem LastAt.no {P : List En} {n : List ByteArray} {k : Nat} {b : Int} (h : LastAt P n k b) (hk : k < P.length) (hn : ¬ Nm.under n P[k].e.n = true) : LastAt P n (k + 1) b := by
  unfold LastAt at h ⊢
  rw [last_take P k hk, getT_snoc, if_neg (fun q => hn q.1)]
  rcases h with h | ⟨t, ht, htk, h⟩
  · exact Or.inl h
  · exact Or.inr ⟨t, ht, by omega, h⟩

theorem LastAt.first {P : List En} {n : List ByteArray} {k : Nat} {b : Int} (h : LastAt P n k b) (hk : k < P.length) (hu : Nm.under n P[k].e.n = true) (hb : b < 0) : LastAt P n (k + 1) (k : Int) := by
  unfold LastAt at h ⊢
  rw [last_take P k hk, getT_snoc]
  rcases h with ⟨_, h⟩ | ⟨t, ht, htk, e, _⟩
  · rw [h, if_pos ⟨hu, rfl⟩]
    exact Or.inr ⟨k, hk, by omega, rfl, rfl⟩
  · omega

theorem LastAt.more {P : List En} {n : List ByteArray} {k t : Nat} (h : LastAt P n k (t : Int)) (hk : k < P.length) (ht : t < P.length) (hu : Nm.under n P[k].e.n = true) (hg : P[t].e.n.length ≤ P[k].e.n.length) : LastAt P n (k + 1) (k : Int) := by
  unfold LastAt at h ⊢
  rw [last_take P k hk, getT_snoc]
  rcases h with ⟨e, _⟩ | ⟨t', ht', htk, e, h⟩
  · omega
  · obtain rfl : t = t' := by omega
    rw [h, if_pos ⟨hu, by simpa using hg⟩]
    exact Or.inr ⟨k, hk, by omega, rfl, rfl⟩

theorem LastAt.less {P : List En} {n : List ByteArray} {k t : Nat} (h : LastAt P n k (t : Int)) (hk : k < P.length) (ht : t < P.length) (hg : ¬ P[t].e.n.length ≤ P[k].e.n.length) : LastAt P n (k + 1) (t : Int) := by
  unfold LastAt at h ⊢
  rw [last_take P k hk, getT_snoc]
  rcases h with ⟨e, _⟩ | ⟨t', ht', htk, e, h⟩
  · omega
  · obtain rfl : t = t' := by omega
    rw [h, if_neg (fun q => hg (by simpa using q.2))]
    exact Or.inr ⟨t, ht, by omega, rfl, rfl⟩

theorem LastAt.in {P : List En} {n : List ByteArray} {k : Nat} {b : Int} (h : LastAt P n k b) : b = -1 ∨ ∃ t, ∃ _ : t < P.length, t < k ∧ b = (t : Int) := by
  rcases h with ⟨e, _⟩ | ⟨t, ht, htk, e, _⟩
  · exact Or.inl e
  · exact Or.inr ⟨t, ht, htk, e⟩

set_option maxHeartbeats 4000000 in
set_option maxRecDepth 100000 in
theorem last_any {x y : Option Addr} {c l B cq lq : Nat} (P : List En) (n : List ByteArray) (w : World) (h : Ens w B x c P) (hin : ∀ b ∈ P, b.e.in w) (hl : P.length = l) (h60 : P.length ≤ 100000) (hQ : Strs w y cq n) (hlq : n.length = lq) :
    Calls Tryd.prog 11 #[.slice x l c, .slice y lq cq] w fun e w' => ∃ b, e = .returned (.int .i64 b) ∧ LastAt P n P.length b ∧ Drawn w w' := by
  subst hl hlq
  have HH := hid h
  have HIN := hid hin
  have HQ := hid hQ
  clear h hin hQ
  go_enter Tryd.func11, Tryd.ntmps11
  go_wp2
  go_loopw [5, 6] (fun s i wr => ∃ (k : Nat) (b : Int), k ≤ P.length ∧ i = .int .i64 (k : Int) ∧ s = .int .i64 b ∧ LastAt P n k b ∧ Drawn w wr) (fun _ i _ => P.length - (intOf i).toNat)
  case atStart => exact ⟨0, -1, Nat.zero_le _, rfl, rfl, Or.inl ⟨rfl, getT_nil _⟩, Drawn.refl _⟩
  case round =>
    obtain ⟨k, b, hk, rfl, rfl, hla, hdr⟩ := hrel
    have HLA := hid hla
    have HD := hid hdr
    by_cases ck : k < P.length
    · have ck' : (k : Int) < (P.length : Int) := by omega
      obtain ⟨g, hx, hgl, x0, _⟩ := (HH.out.below (hdr.below _)).at ck
      subst hx
      have hbest : b = -1 ∨ ∃ t, ∃ _ : t < P.length, b = (t : Int) ∧ wr.cell? ⟨g, t * 2, none⟩ = some (.slice P[t].e.x P[t].e.n.length P[t].e.c) := by
        rcases hla.in with e | ⟨t, ht, _, e⟩
        · exact Or.inl e
        · obtain ⟨g', hx', _, q0, _⟩ := (HH.out.below (hdr.below _)).at ht
          simp only [Option.some.injEq, Addr.mk.injEq] at hx'
          obtain ⟨rfl, _⟩ := hx'
          exact Or.inr ⟨t, ht, e, q0⟩
      have CA := hid fun (r : Bool) (hr : Nm.under n P[k].e.n = r) (u : World) (hu : Drawn wr u) => below_at r n P[k].e.n u (HQ.out.below ((hdr.trans hu).below _)) (Strs.below (HIN.out _ (List.getElem_mem ck)) ((hdr.trans hu).below _)) rfl rfl hr
      have HNo : Hid (¬ Nm.under n P[k].e.n = true → LastAt P n (k + 1) b) := hid (fun q => hla.no ck q)
      have HFi : Hid (Nm.under n P[k].e.n = true → b < 0 → LastAt P n (k + 1) (k : Int)) := hid (fun q z => hla.first ck q z)
      have HMo : Hid (∀ t (ht : t < P.length), b = (t : Int) → Nm.under n P[k].e.n = true → P[t].e.n.length ≤ P[k].e.n.length → LastAt P n (k + 1) (k : Int)) := hid (fun t ht e q z => by subst e; exact hla.more ck ht q z)
      have HLe : Hid (∀ t (ht : t < P.length), b = (t : Int) → ¬ P[t].e.n.length ≤ P[k].e.n.length → LastAt P n (k + 1) (t : Int)) := hid (fun t ht e z => by subst e; exact hla.less ck ht z)
      have HBS := hid hbest
      clear hla hdr hbest
      generalize P[k] = F at *
      cases hu : Nm.under n F.e.n with
      | false =>
        have CQ := hid (CA.out false hu)
        have HL := hid (HNo.out (by rw [hu]; decide))
        clear hu
        go_wp2
        go_quiet ((go_at_call 18; exact Calls.quiet_of (CQ.out _ ⟨_, rfl⟩)))
        go_wp2
        go_roundw
        case rel => exact ⟨k + 1, b, by omega, by go_num, rfl, HL.out, HD.out.more _⟩
        case measure => simp [intOf]; omega
      | true =>
        have CQ := hid (CA.out true hu)
        have HU := hid hu
        clear hu
        rcases HBS.out with rfl | ⟨t, ht, rfl, q0⟩
        · have HL := hid (HFi.out HU.out (by decide))
          go_wp2
          go_quiet ((go_at_call 18; exact Calls.quiet_of (CQ.out _ ⟨_, rfl⟩)))
          go_wp2
          go_roundw
          case rel => exact ⟨k + 1, (k : Int), by omega, by go_num, rfl, HL.out, HD.out.more _⟩
          case measure => simp [intOf]; omega
        · have tb0 : ¬ (t : Int) < 0 := by omega
          have tl : (t : Int) < (P.length : Int) := by omega
          have HM := hid (HMo.out t ht rfl HU.out)
          have HL2 := hid (HLe.out t ht rfl)
          generalize P[t] = E at *
          have z1 : E.e.n.length ≤ 9000000000000000 ∨ True := Or.inr trivial
          by_cases c2 : E.e.n.length ≤ F.e.n.length
          · have HL := hid (HM.out c2)
            have c2' : (E.e.n.length : Int) ≤ (F.e.n.length : Int) := by omega
            go_wp2
            go_quiet ((go_at_call 18; exact Calls.quiet_of (CQ.out _ ⟨_, rfl⟩)))
            go_wp2
            go_roundw
            case rel => exact ⟨k + 1, (k : Int), by omega, by go_num, rfl, HL.out, HD.out.more _⟩
            case measure => simp [intOf]; omega
          · have HL := hid (HL2.out c2)
            have c2' : ¬ (E.e.n.length : Int) ≤ (F.e.n.length : Int) := by omega
            go_wp2
            go_quiet ((go_at_call 18; exact Calls.quiet_of (CQ.out _ ⟨_, rfl⟩)))
            go_wp2
            go_roundw
            case rel => exact ⟨k + 1, (t : Int), by omega, by go_num, rfl, HL.out, HD.out.more _⟩
            case measure => simp [intOf]; omega
    · have ck' : ¬ (k : Int) < (P.length : Int) := by omega
      obtain rfl : k = P.length := by omega
      go_wp2
      go_ret
      exact ⟨b, rfl, HLA.out, HD.out⟩

end Go.Proofs.YtclkhegdbikcoaaDoor.Tl
