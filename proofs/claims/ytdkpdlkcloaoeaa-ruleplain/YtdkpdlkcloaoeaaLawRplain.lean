/-
  The walk of the law RulePlain.
-/
import Derived.Test.YtdkpdlkcloaoeaaRlAsk
import Derived.Test.YtdkpdlkcloaoeaaRlMat
import Derived.Deep.Cut
namespace Go.Proofs.Ytdkpdlkcloaoeaa.Ru
open Go.RowKit Go.Deep

set_option maxHeartbeats 4000000 in
set_option maxRecDepth 100000 in
theorem rplain_walk {x y z : Option Addr} {c l s t : Nat} (r : List Mt) (q : Qy) (w : World) (h : Mats w x c r) (hl : r.length = l) (hq : QyIs w q y s z t) :
    Calls Try.prog 3 #[.slice x l c, .agg #[.slice y q.N.length s, .int .i64 q.ty, .int .i64 q.cl, .int .i64 q.opc, .bool q.rd, .slice z q.F.length t]] w fun e w' => e = .returned (.bool true) ∧ Below w.heap.size w w' := by
  have B0 := (Below.refl w.heap.size w).alloc (Nat.le_refl _) (.cells #[.slice y q.N.length s, .int .i64 q.ty, .int .i64 q.cl, .int .i64 q.opc, .bool q.rd, .slice z q.F.length t] 26)
  have KQ := hid (Bl.new 26 w #[.slice y q.N.length s, .int .i64 q.ty, .int .i64 q.cl, .int .i64 q.opc, .bool q.rd, .slice z q.F.length t])
  have HH := hid (h.below B0)
  have QQ := hid (hq.below B0)
  have WW := hid B0
  have HL := hid hl
  clear B0 h hq hl
  obtain ⟨w0, hw0⟩ : ∃ w0, w.alloc (.cells #[.slice y q.N.length s, .int .i64 q.ty, .int .i64 q.cl, .int .i64 q.opc, .bool q.rd, .slice z q.F.length t] 26) = w0 := ⟨_, rfl⟩
  rw [hw0] at KQ HH QQ WW
  have HW := hid hw0
  clear hw0
  go_enter Try.func3, Try.ntmps3
  go_upto_region 1 with fail
  rw [HW.out]
  clear HW
  go_wp2_with fail
  refine (asked_any w0).mono ?_
  rintro e w1 ⟨rfl, b⟩
  replace KQ := hid (KQ.out.below b)
  replace HH := hid (HH.out.below b)
  replace QQ := hid (QQ.out.below b)
  replace WW := hid (grown_on WW.out b)
  clear b
  by_cases h0 : ruleE r = 0
  rotate_left
  · have EK := hid h0
    have EV : Hid (errV (ruleE r) = .iface 47 (.int .i64 (ruleE r))) := hid (errV_some h0)
    clear h0
    go_wp2_with fail
    refine (rplain_bad r _ w1 HH.out HL.out EK.out EV.out).mono ?_
    rintro e w2 ⟨rfl, b⟩
    replace WW := hid (grown_on WW.out b)
    clear b
    go_wp2_with fail
    go_ret
    exact ⟨rfl, WW.out⟩
  have HK := hid h0
  obtain ⟨tr, hf, hw⟩ := ruleE_tree h0
  have HF := hid hf
  have HWf := hid hw
  clear hf hw h0
  by_cases hp : (flat (pl tr false)).length ≤ 200
  rotate_left
  · have HP := hid hp
    clear hp
    go_wp2_with fail
    refine (rplain_full r tr w1 HH.out HL.out HK.out HF.out HWf.out HP.out).mono ?_
    rintro e w2 ⟨rfl, b⟩
    replace WW := hid (grown_on WW.out b)
    clear b
    go_wp2_with fail
    go_ret
    exact ⟨rfl, WW.out⟩
  obtain ⟨i, hi⟩ : ∃ i, ev q tr = i := ⟨_, rfl⟩
  have HI := hid hi
  have hpw := wf_pl tr false HWf.out
  have PW := hid hpw
  have PE : Hid (ruleE (flat (pl tr false)) = 0) := hid (ruleE_of hpw hp (pl_nodes tr false HWf.out (by rw [HF.out]; exact ruleE_node HK.out)))
  have PI : Hid (ev q (pl tr false) = i) := hid (by rw [ev_pl q tr false HWf.out, hi]; simp)
  have PP := hid (pl_pl tr false)
  have PN : Hid (∀ i a b, (flat (pl tr false))[i]? = some a → (flat (pl tr false))[i + 1]? = some b → b.op = 8 → takes a.op = 0) := hid (fun i a b ha hb ho => by
    obtain ⟨h1, e1⟩ := List.getElem?_eq_some_iff.1 ha
    obtain ⟨h2, e2⟩ := List.getElem?_eq_some_iff.1 hb
    have := pl_not tr false HWf.out i h2
    rw [e1, e2] at this
    exact this ho)
  have PS := hid (flat_pos (pl tr false))
  have HP := hid hp
  have C1 := hid (rplain_good r tr w1 HH.out HL.out HK.out HF.out HWf.out hp)
  have C2 := hid (fun (y2 : Option Addr) (d2 : Nat) (u : World) (hu : Mats u y2 d2 (flat (pl tr false))) => rplain_good (flat (pl tr false)) (pl tr false) u hu rfl PE.out rfl PW.out (by rw [PP.out]; exact HP.out))
  have C3 := hid (fun (y2 : Option Addr) (d2 : Nat) (u : World) (hu : Mats u y2 d2 (flat (pl tr false))) (hq2 : QyIs u q y s z t) => rholds_good (flat (pl tr false)) (pl tr false) q i u hu rfl hq2 PE.out rfl PW.out PI.out)
  rw [PP.out] at C2
  clear hi hpw hp PP PE PW PI
  generalize flat (pl tr false) = P at *
  have hps : 1 ≤ P.length := PS.out
  have hpl : P.length ≤ 200 := HP.out
  go_wp2_with fail
  refine C1.out.mono ?_
  rintro e w2 ⟨y2, d2, rfl, hm, b⟩
  have HM := hid hm
  replace KQ := hid (KQ.out.below b)
  replace HH := hid (HH.out.below b)
  replace QQ := hid (QQ.out.below b)
  replace WW := hid (grown_on WW.out b)
  clear b hm C1
  obtain ⟨c0, c1, c2, c3, c4, c5⟩ := bl6 KQ.out
  go_wp2_with fail
  refine (rholds_good r tr q i w2 HH.out HL.out QQ.out HK.out HF.out HWf.out HI.out).mono ?_
  rintro e w3 ⟨rfl, b⟩
  replace HM := hid (HM.out.below b)
  replace KQ := hid (KQ.out.below b)
  replace QQ := hid (QQ.out.below b)
  replace WW := hid (grown_on WW.out b)
  clear b c0 c1 c2 c3 c4 c5 HH
  obtain ⟨c0, c1, c2, c3, c4, c5⟩ := bl6 KQ.out
  go_wp2_with fail
  refine (C3.out y2 d2 w3 HM.out QQ.out).mono ?_
  rintro e w4 ⟨rfl, b⟩
  replace HM := hid (HM.out.below b)
  replace WW := hid (grown_on WW.out b)
  clear b c0 c1 c2 c3 c4 c5 KQ QQ C3
  go_wp2_with fail
  refine (C2.out y2 d2 w4 HM.out).mono ?_
  rintro e w5 ⟨y3, d3, rfl, hm3, b⟩
  have HM3 := hid hm3
  replace HM := hid (HM.out.below b)
  replace WW := hid (grown_on WW.out b)
  clear b hm3 C2
  go_wp2_with fail
  refine (matches_same P w5 HM3.out HM.out rfl rfl).mono ?_
  rintro e w6 ⟨rfl, d⟩
  replace HM := hid (HM.out.below (d.below _))
  replace WW := hid (WW.out.trans (d.below _))
  clear d HM3
  go_wp2_with fail
  obtain ⟨b2, o2, rfl, hb2, qa⟩ := HM.out.all (by omega)
  have QA := hid (fun i (hi : i < P.length) => by
    obtain ⟨y, s, z, t, p0, _⟩ := qa i hi
    exact p0)
  clear qa
  go_loopw [14] (fun vi wr => ∃ k : Nat, 1 ≤ k ∧ k ≤ P.length ∧ vi = .int .i64 (k : Int) ∧ wr = w6) (fun vi _ => P.length - (intOf vi).toNat)
  case atStart => exact ⟨1, by omega, by omega, rfl, by trivial⟩
  case round =>
    obtain ⟨k, hk1, hk, rfl, rfl⟩ := hrel
    by_cases ck : k < P.length
    · have ck' : (k : Int) < (P.length : Int) := by omega
      have p0 := QA.out k ck
      have p1 := QA.out (k - 1) (by omega)
      have hn : Hid (P[k].op = 8 → takes P[k - 1].op = 0) := hid (fun e => by
        exact PN.out (k - 1) _ P[k] (List.getElem?_eq_getElem (by omega)) (by rw [show k - 1 + 1 = k by omega]; exact List.getElem?_eq_getElem ck) e)
      have ek : (k : Int) - 1 = ((k - 1 : Nat) : Int) := by omega
      have ek2 : ((k - 1 : Nat) : Int) < (P.length : Int) := by omega
      obtain ⟨op1, ho1⟩ : ∃ o, P[k].op = o := ⟨_, rfl⟩
      obtain ⟨op2, ho2⟩ : ∃ o, (P[k - 1]'(by omega)).op = o := ⟨_, rfl⟩
      rw [ho1] at p0 hn
      rw [ho2] at p1 hn
      clear ho1 ho2
      by_cases h8 : op1 = 8
      · have hz := hn.out h8
        have TT := hid (takes_at op2 0 wr (by rw [hz]; rfl))
        have h8' : (op1 == 8) = true := by simpa using h8
        have EK := hid ek
        clear hn h8 hz ek
        obtain ⟨k1, hk1'⟩ : ∃ k1, k - 1 = k1 := ⟨_, rfl⟩
        have ek3 : (k : Int) - 1 = (k1 : Int) := by omega
        rw [hk1'] at p1 ek2
        clear EK hk1'
        go_wp2_with fail
        refine TT.out.mono ?_
        rintro e w7 ⟨rfl, rfl⟩
        go_wp2_with fail
        exact ⟨⟨k + 1, by omega, by omega, by go_num, by trivial⟩, by simp [intOf]; omega⟩
      · have h8' : (op1 == 8) = false := by simpa using h8
        clear hn h8
        go_wp2_with fail
        exact ⟨⟨k + 1, by omega, by omega, by go_num, by trivial⟩, by simp [intOf]; omega⟩
    · have ck' : ¬ (k : Int) < (P.length : Int) := by omega
      go_wp2_with fail
      go_ret
      exact ⟨rfl, WW.out⟩

end Go.Proofs.Ytdkpdlkcloaoeaa.Ru
