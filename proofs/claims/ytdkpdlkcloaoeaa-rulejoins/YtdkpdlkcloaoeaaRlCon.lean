/-
  What package rule's own functions answer.
-/
import Derived.Test.YtdkpdlkcloaoeaaRcPlain
namespace Go.Proofs.Ytdkpdlkcloaoeaa.Ru
open Go.RowKit Go.Deep

set_option maxHeartbeats 4000000 in
set_option maxRecDepth 100000 in
theorem rholds_good {x y z : Option Addr} {c l s t : Nat} (r : List Mt) (tr : T) (q : Qy) (i : Bool) (w : World) (_h : Mats w x c r) (_hl : r.length = l) (_hq : QyIs w q y s z t) (_hE : ruleE r = 0) (_hf : flat tr = r) (_hw : wf tr) (_hi : ev q tr = i) :
    Calls Try.prog 7 #[.slice x l c, .agg #[.slice y q.N.length s, .int .i64 q.ty, .int .i64 q.cl, .int .i64 q.opc, .bool q.rd, .slice z q.F.length t]] w fun e w' => e = .returned (.tuple #[.bool i, .nilIface]) ∧ Below w.heap.size w w' := by
  have b1 := boxed 26 w #[.slice y q.N.length s, .int .i64 q.ty, .int .i64 q.cl, .int .i64 q.opc, .bool q.rd, .slice z q.F.length t]
  have B1 := Bl.new 26 w #[.slice y q.N.length s, .int .i64 q.ty, .int .i64 q.cl, .int .i64 q.opc, .bool q.rd, .slice z q.F.length t]
  obtain ⟨W1, hW⟩ : ∃ W1, w.alloc (.cells #[.slice y q.N.length s, .int .i64 q.ty, .int .i64 q.cl, .int .i64 q.opc, .bool q.rd, .slice z q.F.length t] 26) = W1 := ⟨_, rfl⟩
  rw [hW] at b1 B1
  have HW := hid hW
  have RD := hid (read_any r W1 (_h.below b1) _hl)
  have QQ := hid (_hq.below b1)
  have BB := hid b1
  have KK := hid B1
  have HE := hid _hE
  have HF := hid _hf
  have HWf := hid _hw
  have HI := hid _hi
  clear _h _hl _hq _hE _hf _hw _hi b1 B1 hW
  go_enter Try.func7, Try.ntmps7
  go_upto_region 1 with fail
  rw [HW.out]
  clear HW
  go_wp2_with fail
  refine RD.out.mono ?_
  rintro e w2 ⟨b2, ⟨_, tr', cs, hfl, hwf, hT, rfl⟩ | ⟨hE, rfl⟩⟩
  rotate_left
  · exact absurd HE.out hE
  obtain rfl := flat_inj hwf HWf.out (hfl.trans HF.out.symm)
  obtain ⟨⟨m, y1, s1, z1, t1⟩, x5, n5, c5, rfl⟩ := hT.form
  rw [tcells_arr]
  have hT2 := hT.later b2
  have b3 := boxed 43 w2 #[.int .i64 m.op, .int .i64 m.n, .slice y1 m.N.length s1, .slice z1 m.A.length t1, .slice x5 n5 c5]
  have B3 := Bl.new 43 w2 #[.int .i64 m.op, .int .i64 m.n, .slice y1 m.N.length s1, .slice z1 m.A.length t1, .slice x5 n5 c5]
  obtain ⟨W3, hW⟩ : ∃ W3, w2.alloc (.cells #[.int .i64 m.op, .int .i64 m.n, .slice y1 m.N.length s1, .slice z1 m.A.length t1, .slice x5 n5 c5] 43) = W3 := ⟨_, rfl⟩
  rw [hW] at b3 B3
  have HW := hid hW
  have CH := hid (holds_any q tr' hwf i _ m y1 s1 z1 t1 x5 n5 c5 w2 W3 hT2 b3 ((QQ.out.below b2).below b3) hwf (by rw [hfl]; exact ruleE_node HE.out) HI.out)
  obtain ⟨q0, q1, q2, q3, q4, q5⟩ := bl6 ((KK.out.below b2).below b3)
  obtain ⟨m0, m1, m2, m3, m4⟩ := bl5 B3
  have B9 := hid (grown_on (grown_on BB.out b2) b3)
  clear b2 b3 B3 hW hT hT2 hwf hfl HF HWf HI HE QQ KK BB RD
  go_upto_region 2 with fail
  rw [HW.out]
  clear HW
  go_wp2_with fail
  refine CH.out.mono ?_
  rintro e w4 ⟨rfl, b4⟩
  have B10 := hid (grown_on B9.out b4)
  clear b4 CH
  go_wp2_with fail
  refine bodyPost_ret (results_tmp2 rfl _ _ _) rfl ?_
  exact ⟨rfl, B10.out⟩

set_option maxHeartbeats 4000000 in
set_option maxRecDepth 100000 in
theorem rholds_bad {x y z : Option Addr} {c l s t : Nat} (r : List Mt) (q : Qy) (v : Value) (w : World) (_h : Mats w x c r) (_hl : r.length = l) (_hq : QyIs w q y s z t) (_hE : ¬ ruleE r = 0) (_hv : errV (ruleE r) = v) :
    Calls Try.prog 7 #[.slice x l c, .agg #[.slice y q.N.length s, .int .i64 q.ty, .int .i64 q.cl, .int .i64 q.opc, .bool q.rd, .slice z q.F.length t]] w fun e w' => e = .returned (.tuple #[.bool false, v]) ∧ Below w.heap.size w w' := by
  have b1 := boxed 26 w #[.slice y q.N.length s, .int .i64 q.ty, .int .i64 q.cl, .int .i64 q.opc, .bool q.rd, .slice z q.F.length t]
  obtain ⟨W1, hW⟩ : ∃ W1, w.alloc (.cells #[.slice y q.N.length s, .int .i64 q.ty, .int .i64 q.cl, .int .i64 q.opc, .bool q.rd, .slice z q.F.length t] 26) = W1 := ⟨_, rfl⟩
  rw [hW] at b1
  have HW := hid hW
  have RD := hid (read_any r W1 (_h.below b1) _hl)
  have BB := hid b1
  have HE := hid _hE
  have EV := hid ((errV_some _hE).symm.trans _hv)
  clear _h _hl _hq _hE _hv b1 hW
  go_enter Try.func7, Try.ntmps7
  go_upto_region 1 with fail
  rw [HW.out]
  clear HW
  go_wp2_with fail
  refine RD.out.mono ?_
  rintro e w2 ⟨b2, ⟨hE, _⟩ | ⟨_, rfl⟩⟩
  · exact absurd hE HE.out
  have b3 := boxed 43 w2 #[.int .i64 0, .int .i64 0, .slice none 0 0, .slice none 0 0, .slice none 0 0]
  have B9 := hid (grown_on (grown_on BB.out b2) b3)
  clear b2 b3 BB RD HE
  go_wp2_with fail
  refine bodyPost_ret (results_tmp2 rfl _ _ _) rfl ?_
  exact ⟨by rw [EV.out]; rfl, B9.out⟩

/-- A rule is handed back. -/
def GotR (w : World) (ms : List Mt) (e : Ending) (w' : World) : Prop := ∃ y d, e = .returned (.tuple #[.slice y ms.length d, .nilIface]) ∧ Mats w' y d ms ∧ Below w.heap.size w w'

/-- What plain has told, with its length. -/
def PlainQ (w : World) (ms : List Mt) (e : Ending) (w' : World) : Prop := ∃ y d, e = .returned (.slice y ms.length d) ∧ Mats w' y d ms ∧ Below w.heap.size w w'

theorem plain_first {m : Mt} {y1 z1 x5 : Option Addr} {s1 t1 n5 c5 : Nat} {tr : T} {P : Nat → Prop} (u w : World) (hT : TIs u u P tr (tcells ⟨m, y1, s1, z1, t1⟩ x5 n5 c5)) (hu : Below u.heap.size u w) (hE : ∀ m ∈ flat tr, matchE m = 0) (hw : wf tr) (hl : (flat tr).length ≤ 200) :
    Calls Try.prog 11 #[.agg #[.int .i64 m.op, .int .i64 m.n, .slice y1 m.N.length s1, .slice z1 m.A.length t1, .slice x5 n5 c5], .slice none 0 0, .bool false] w (PlainQ w (flat (pl tr false))) := by
  have h4 := pl_len tr false
  refine (plain_any tr hw false w.heap.size P m y1 s1 z1 t1 x5 n5 c5 u w (.slice none 0 0) [] hT hu hu.size (Nat.le_refl _) hw hE (PRow.nil _ _) (by simp; omega)).mono ?_
  rintro e w' ⟨v', rfl, hr, hg⟩
  rw [List.nil_append] at hr
  obtain ⟨y, d, rfl, hm⟩ := hr.toM.mats (by omega)
  exact ⟨y, d, rfl, hm, hg.low (Nat.le_refl _) (fun k hk => by cases hk)⟩

set_option maxHeartbeats 4000000 in
set_option maxRecDepth 100000 in
theorem rplain_good {x : Option Addr} {c l : Nat} (r : List Mt) (tr : T) (w : World) (_h : Mats w x c r) (_hl : r.length = l) (_hE : ruleE r = 0) (_hf : flat tr = r) (_hw : wf tr) (_hp : (flat (pl tr false)).length ≤ 200) :
    Calls Try.prog 6 #[.slice x l c] w (GotR w (flat (pl tr false))) := by
  have RD := hid (read_any r w _h _hl)
  have HE := hid _hE
  have HF := hid _hf
  have HWf := hid _hw
  have hp : ¬ (200 : Int) < ((flat (pl tr false)).length : Int) := by omega
  clear _h _hl _hE _hf _hw _hp
  obtain ⟨pr, hpr⟩ : ∃ pr, flat (pl tr false) = pr := ⟨_, rfl⟩
  rw [hpr] at hp ⊢
  have HPR := hid hpr
  clear hpr
  go_enter Try.func6, Try.ntmps6
  go_wp2_with fail
  refine RD.out.mono ?_
  rintro e w2 ⟨b2, ⟨_, tr', cs, hfl, hwf, hT, rfl⟩ | ⟨hE, rfl⟩⟩
  rotate_left
  · exact absurd HE.out hE
  obtain rfl := flat_inj hwf HWf.out (hfl.trans HF.out.symm)
  obtain ⟨⟨m, y1, s1, z1, t1⟩, x5, n5, c5, rfl⟩ := hT.form
  rw [tcells_arr]
  have hT2 := hT.later b2
  have b3 := boxed 43 w2 #[.int .i64 m.op, .int .i64 m.n, .slice y1 m.N.length s1, .slice z1 m.A.length t1, .slice x5 n5 c5]
  have B3 := Bl.new 43 w2 #[.int .i64 m.op, .int .i64 m.n, .slice y1 m.N.length s1, .slice z1 m.A.length t1, .slice x5 n5 c5]
  obtain ⟨W3, hW⟩ : ∃ W3, w2.alloc (.cells #[.int .i64 m.op, .int .i64 m.n, .slice y1 m.N.length s1, .slice z1 m.A.length t1, .slice x5 n5 c5] 43) = W3 := ⟨_, rfl⟩
  rw [hW] at b3 B3
  have HW := hid hW
  have CH := hid (plain_first w2 W3 hT2 b3 (by rw [hfl]; exact ruleE_node HE.out) hwf (by rw [hfl]; exact ruleE_len HE.out))
  rw [HPR.out] at CH
  obtain ⟨m0, m1, m2, m3, m4⟩ := bl5 B3
  have B9 := hid (grown_on b2 b3)
  clear b2 b3 B3 hW hT hT2 hwf hfl HF HWf HE RD HPR
  go_upto_region 2 with fail
  rw [HW.out]
  clear HW
  go_wp2_with fail
  refine CH.out.mono ?_
  rintro e w4 ⟨y4, d4, rfl, hm, b4⟩
  have B10 := hid (grown_on B9.out b4)
  have HM := hid hm
  clear b4 hm CH
  go_wp2_with fail
  refine bodyPost_ret (results_tmp2 rfl _ _ _) rfl ?_
  exact ⟨y4, d4, rfl, HM.out, B10.out⟩

set_option maxHeartbeats 4000000 in
set_option maxRecDepth 100000 in
theorem rplain_full {x : Option Addr} {c l : Nat} (r : List Mt) (tr : T) (w : World) (_h : Mats w x c r) (_hl : r.length = l) (_hE : ruleE r = 0) (_hf : flat tr = r) (_hw : wf tr) (_hp : ¬ (flat (pl tr false)).length ≤ 200) :
    Calls Try.prog 6 #[.slice x l c] w fun e w' => e = .returned (.tuple #[.slice none 0 0, .iface 47 (.int .i64 7)]) ∧ Below w.heap.size w w' := by
  have RD := hid (read_any r w _h _hl)
  have HE := hid _hE
  have HF := hid _hf
  have HWf := hid _hw
  have hp : (200 : Int) < ((flat (pl tr false)).length : Int) := by omega
  clear _h _hl _hE _hf _hw _hp
  obtain ⟨pr, hpr⟩ : ∃ pr, flat (pl tr false) = pr := ⟨_, rfl⟩
  rw [hpr] at hp
  have HPR := hid hpr
  clear hpr
  go_enter Try.func6, Try.ntmps6
  go_wp2_with fail
  refine RD.out.mono ?_
  rintro e w2 ⟨b2, ⟨_, tr', cs, hfl, hwf, hT, rfl⟩ | ⟨hE, rfl⟩⟩
  rotate_left
  · exact absurd HE.out hE
  obtain rfl := flat_inj hwf HWf.out (hfl.trans HF.out.symm)
  obtain ⟨⟨m, y1, s1, z1, t1⟩, x5, n5, c5, rfl⟩ := hT.form
  rw [tcells_arr]
  have hT2 := hT.later b2
  have b3 := boxed 43 w2 #[.int .i64 m.op, .int .i64 m.n, .slice y1 m.N.length s1, .slice z1 m.A.length t1, .slice x5 n5 c5]
  have B3 := Bl.new 43 w2 #[.int .i64 m.op, .int .i64 m.n, .slice y1 m.N.length s1, .slice z1 m.A.length t1, .slice x5 n5 c5]
  obtain ⟨W3, hW⟩ : ∃ W3, w2.alloc (.cells #[.int .i64 m.op, .int .i64 m.n, .slice y1 m.N.length s1, .slice z1 m.A.length t1, .slice x5 n5 c5] 43) = W3 := ⟨_, rfl⟩
  rw [hW] at b3 B3
  have HW := hid hW
  have CH := hid (plain_first w2 W3 hT2 b3 (by rw [hfl]; exact ruleE_node HE.out) hwf (by rw [hfl]; exact ruleE_len HE.out))
  rw [HPR.out] at CH
  obtain ⟨m0, m1, m2, m3, m4⟩ := bl5 B3
  have B9 := hid (grown_on b2 b3)
  clear b2 b3 B3 hW hT hT2 hwf hfl HF HWf HE RD HPR
  go_upto_region 2 with fail
  rw [HW.out]
  clear HW
  go_wp2_with fail
  refine CH.out.mono ?_
  rintro e w4 ⟨y4, d4, rfl, hm, b4⟩
  have B10 := hid (grown_on B9.out b4)
  clear b4 hm CH
  go_wp2_with fail
  refine bodyPost_ret (results_tmp2 rfl _ _ _) rfl ?_
  exact ⟨rfl, B10.out⟩

set_option maxHeartbeats 4000000 in
set_option maxRecDepth 100000 in
theorem rplain_bad {x : Option Addr} {c l : Nat} (r : List Mt) (v : Value) (w : World) (_h : Mats w x c r) (_hl : r.length = l) (_hE : ¬ ruleE r = 0) (_hv : errV (ruleE r) = v) :
    Calls Try.prog 6 #[.slice x l c] w fun e w' => e = .returned (.tuple #[.slice none 0 0, v]) ∧ Below w.heap.size w w' := by
  have RD := hid (read_any r w _h _hl)
  have HE := hid _hE
  have EV := hid ((errV_some _hE).symm.trans _hv)
  clear _h _hl _hE _hv
  go_enter Try.func6, Try.ntmps6
  go_wp2_with fail
  refine RD.out.mono ?_
  rintro e w2 ⟨b2, ⟨hE, _⟩ | ⟨_, rfl⟩⟩
  · exact absurd hE HE.out
  have b3 := boxed 43 w2 #[.int .i64 0, .int .i64 0, .slice none 0 0, .slice none 0 0, .slice none 0 0]
  have B9 := hid (grown_on b2 b3)
  clear b2 b3 RD HE
  go_wp2_with fail
  refine bodyPost_ret (results_tmp2 rfl _ _ _) rfl ?_
  exact ⟨by rw [EV.out]; rfl, B9.out⟩

end Go.Proofs.Ytdkpdlkcloaoeaa.Ru
