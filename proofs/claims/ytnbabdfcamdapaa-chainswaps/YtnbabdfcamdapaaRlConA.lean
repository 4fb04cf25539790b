/-
  What package rule's Check and Holds answer.
-/
import Derived.Test.YtnbabdfcamdapaaRcHolds
namespace Go.Proofs.Ytnbabdfcamdapaa.Ru
open Go.RowKit Go.Deep

set_option maxHeartbeats 4000000 in
set_option maxRecDepth 100000 in
theorem rcheck_any {x : Option Addr} {c l : Nat} (r : List Mt) (v : Value) (w : World) (_h : Mats w x c r) (_hl : r.length = l) (_hv : errV (ruleE r) = v) :
    Calls Try.prog 14 #[.slice x l c] w fun e w' => e = .returned v ∧ Below w.heap.size w w' := by
  have RD := hid (read_any r w _h _hl)
  have HV := hid _hv
  clear _h _hl _hv
  go_enter Try.func14, Try.ntmps14
  go_wp2_with fail
  refine RD.out.mono ?_
  rintro e w2 ⟨b2, ⟨hE, tr, cs, _, _, hT, rfl⟩ | ⟨hE, rfl⟩⟩
  · obtain ⟨⟨m, y1, s1, z1, t1⟩, x5, n5, c5, rfl⟩ := hT.form
    rw [tcells_arr]
    have BB := hid (grown_on b2 (boxed 48 w2 #[.int .i64 m.op, .int .i64 m.n, .slice y1 m.N.length s1, .slice z1 m.A.length t1, .slice x5 n5 c5]))
    have EV : Hid (Value.nilIface = v) := hid (by rw [← HV.out, hE]; rfl)
    clear b2 hE HV RD hT
    go_wp2_with fail
    go_ret
    exact ⟨by rw [EV.out]; rfl, BB.out⟩
  · have BB := hid (grown_on b2 (boxed 48 w2 #[.int .i64 0, .int .i64 0, .slice none 0 0, .slice none 0 0, .slice none 0 0]))
    have EV := hid ((errV_some hE).symm.trans HV.out)
    clear b2 hE HV RD
    go_wp2_with fail
    go_ret
    exact ⟨by rw [EV.out]; rfl, BB.out⟩

set_option maxHeartbeats 4000000 in
set_option maxRecDepth 100000 in
theorem rholds_good {x y z : Option Addr} {c l s t : Nat} (r : List Mt) (tr : T) (q : Qy) (i : Bool) (w : World) (_h : Mats w x c r) (_hl : r.length = l) (_hq : QyIs w q y s z t) (_hE : ruleE r = 0) (_hf : flat tr = r) (_hw : wf tr) (_hi : ev q tr = i) :
    Calls Try.prog 7 #[.slice x l c, .agg #[.slice y q.N.length s, .int .i64 q.ty, .int .i64 q.cl, .int .i64 q.opc, .bool q.rd, .slice z q.F.length t]] w fun e w' => e = .returned (.tuple #[.bool i, .nilIface]) ∧ Below w.heap.size w w' := by
  have b1 := boxed 29 w #[.slice y q.N.length s, .int .i64 q.ty, .int .i64 q.cl, .int .i64 q.opc, .bool q.rd, .slice z q.F.length t]
  have B1 := Bl.new 29 w #[.slice y q.N.length s, .int .i64 q.ty, .int .i64 q.cl, .int .i64 q.opc, .bool q.rd, .slice z q.F.length t]
  obtain ⟨W1, hW⟩ : ∃ W1, w.alloc (.cells #[.slice y q.N.length s, .int .i64 q.ty, .int .i64 q.cl, .int .i64 q.opc, .bool q.rd, .slice z q.F.length t] 29) = W1 := ⟨_, rfl⟩
  rw [hW] at b1 B1
  have HW := hid hW
  have RD := hid (read_any r W1 (_h.below b1) _hl)
  have QQ := hid (_hq.below b1)
  have BB := hid b1
  have KK := hid B1
  have HE := hid _hE
  have HF := hid _hf
  have HWf := hid _hw
  have HI := hid _hi
  clear _h _hl _hq _hE _hf _hw _hi b1 B1 hW
  go_enter Try.func7, Try.ntmps7
  go_upto_region 1 with fail
  rw [HW.out]
  clear HW
  go_wp2_with fail
  refine RD.out.mono ?_
  rintro e w2 ⟨b2, ⟨_, tr', cs, hfl, hwf, hT, rfl⟩ | ⟨hE, rfl⟩⟩
  rotate_left
  · exact absurd HE.out hE
  obtain rfl := flat_inj hwf HWf.out (hfl.trans HF.out.symm)
  obtain ⟨⟨m, y1, s1, z1, t1⟩, x5, n5, c5, rfl⟩ := hT.form
  rw [tcells_arr]
  have hT2 := hT.later b2
  have b3 := boxed 48 w2 #[.int .i64 m.op, .int .i64 m.n, .slice y1 m.N.length s1, .slice z1 m.A.length t1, .slice x5 n5 c5]
  have B3 := Bl.new 48 w2 #[.int .i64 m.op, .int .i64 m.n, .slice y1 m.N.length s1, .slice z1 m.A.length t1, .slice x5 n5 c5]
  obtain ⟨W3, hW⟩ : ∃ W3, w2.alloc (.cells #[.int .i64 m.op, .int .i64 m.n, .slice y1 m.N.length s1, .slice z1 m.A.length t1, .slice x5 n5 c5] 48) = W3 := ⟨_, rfl⟩
  rw [hW] at b3 B3
  have HW := hid hW
  have CH := hid (holds_any q tr' hwf i _ m y1 s1 z1 t1 x5 n5 c5 w2 W3 hT2 b3 ((QQ.out.below b2).below b3) hwf (by rw [hfl]; exact ruleE_node HE.out) HI.out)
  obtain ⟨q0, q1, q2, q3, q4, q5⟩ := bl6 ((KK.out.below b2).below b3)
  obtain ⟨m0, m1, m2, m3, m4⟩ := bl5 B3
  have B9 := hid (grown_on (grown_on BB.out b2) b3)
  clear b2 b3 B3 hW hT hT2 hwf hfl HF HWf HI HE QQ KK BB RD
  go_upto_region 2 with fail
  rw [HW.out]
  clear HW
  go_wp2_with fail
  refine CH.out.mono ?_
  rintro e w4 ⟨rfl, b4⟩
  have B10 := hid (grown_on B9.out b4)
  clear b4 CH
  go_wp2_with fail
  refine bodyPost_ret (results_tmp2 rfl _ _ _) rfl ?_
  exact ⟨rfl, B10.out⟩

set_option maxHeartbeats 4000000 in
set_option maxRecDepth 100000 in
theorem rholds_bad {x y z : Option Addr} {c l s t : Nat} (r : List Mt) (q : Qy) (v : Value) (w : World) (_h : Mats w x c r) (_hl : r.length = l) (_hq : QyIs w q y s z t) (_hE : ¬ ruleE r = 0) (_hv : errV (ruleE r) = v) :
    Calls Try.prog 7 #[.slice x l c, .agg #[.slice y q.N.length s, .int .i64 q.ty, .int .i64 q.cl, .int .i64 q.opc, .bool q.rd, .slice z q.F.length t]] w fun e w' => e = .returned (.tuple #[.bool false, v]) ∧ Below w.heap.size w w' := by
  have b1 := boxed 29 w #[.slice y q.N.length s, .int .i64 q.ty, .int .i64 q.cl, .int .i64 q.opc, .bool q.rd, .slice z q.F.length t]
  obtain ⟨W1, hW⟩ : ∃ W1, w.alloc (.cells #[.slice y q.N.length s, .int .i64 q.ty, .int .i64 q.cl, .int .i64 q.opc, .bool q.rd, .slice z q.F.length t] 29) = W1 := ⟨_, rfl⟩
  rw [hW] at b1
  have HW := hid hW
  have RD := hid (read_any r W1 (_h.below b1) _hl)
  have BB := hid b1
  have HE := hid _hE
  have EV := hid ((errV_some _hE).symm.trans _hv)
  clear _h _hl _hq _hE _hv b1 hW
  go_enter Try.func7, Try.ntmps7
  go_upto_region 1 with fail
  rw [HW.out]
  clear HW
  go_wp2_with fail
  refine RD.out.mono ?_
  rintro e w2 ⟨b2, ⟨hE, _⟩ | ⟨_, rfl⟩⟩
  · exact absurd hE HE.out
  have b3 := boxed 48 w2 #[.int .i64 0, .int .i64 0, .slice none 0 0, .slice none 0 0, .slice none 0 0]
  have B9 := hid (grown_on (grown_on BB.out b2) b3)
  clear b2 b3 BB RD HE
  go_wp2_with fail
  refine bodyPost_ret (results_tmp2 rfl _ _ _) rfl ?_
  exact ⟨by rw [EV.out]; rfl, B9.out⟩

end Go.Proofs.Ytnbabdfcamdapaa.Ru
