/-
  The walk of the law RuleJoins. Written by genjoin.py.
-/
import Derived.Test.YtdkpdlkcloaoeaaRlAsk
import Derived.Test.YtdkpdlkcloaoeaaRlMat
import Derived.Test.YtdkpdlkcloaoeaaForkT
import Derived.Deep.Cut
import Derived.Deep.CutRange
namespace Go.Proofs.Ytdkpdlkcloaoeaa.Ru
open Go.RowKit Go.Deep

/-- A node that takes others. -/
def opM (o : Int) : Mt := ⟨o, 0, [], []⟩

/-- Worlds in which all old blocks stay. -/
structure Ok (w : World) where
  val : World
  keeps : Below w.heap.size w val

theorem opM_in (w : World) (o : Int) (h : -9223372036854775808 ≤ o ∧ o ≤ 9223372036854775807) : MeIn w ⟨opM o, none, 0, none, 0⟩ := ⟨⟨Nat.zero_le _, by simp [opM], fun s hs => by simp [opM] at hs, Or.inl rfl⟩, Bys.nil _ _ _, fun _ => rfl, h.1, h.2, by simp [opM], by simp [opM]⟩

theorem two_matchE {o : Int} (h : o = 8 ∨ o = 9 ∨ o = 10) : matchE (opM o) = 0 := by
  rcases h with rfl | rfl | rfl <;> rfl

theorem one_cellsM (L : List Me) {g : Nat} {w : World} {o : Int} (h : Bl 36 w g #[.int .i64 o, .int .i64 0, .slice none 0 0, .slice none 0 0]) : ∀ j u, ([(⟨opM o, none, 0, none, 0⟩ : Me)].flatMap mcells)[j]? = some u → w.cell? ((⟨g, 0, none⟩ : Addr).add j) = some u := by
  intro j u hj
  have _ := L
  rw [Go.WideShapes.add_plain, Nat.zero_add]
  exact h.cell (by simpa [mcells, opM] using hj)

set_option maxHeartbeats 16000000 in
set_option maxRecDepth 100000 in
theorem rjoin_walk {x x2 y z : Option Addr} {c c2 l l2 s t : Nat} (r r2 : List Mt) (q : Qy) (w : World) (h : Mats w x c r) (h2 : Mats w x2 c2 r2) (hl : r.length = l) (hl2 : r2.length = l2) (hq : QyIs w q y s z t) :
    Calls Try.prog 4 #[.slice x l c, .slice x2 l2 c2, .agg #[.slice y q.N.length s, .int .i64 q.ty, .int .i64 q.cl, .int .i64 q.opc, .bool q.rd, .slice z q.F.length t]] w fun e w' => e = .returned (.bool true) ∧ Below w.heap.size w w' := by
  have B0 := (Below.refl w.heap.size w).alloc (Nat.le_refl _) (.cells #[.slice y q.N.length s, .int .i64 q.ty, .int .i64 q.cl, .int .i64 q.opc, .bool q.rd, .slice z q.F.length t] 26)
  have KQ := hid (Bl.new 26 w #[.slice y q.N.length s, .int .i64 q.ty, .int .i64 q.cl, .int .i64 q.opc, .bool q.rd, .slice z q.F.length t])
  have H1 := hid (h.below B0)
  have H2 := hid (h2.below B0)
  have QQ := hid (hq.below B0)
  have WW := hid B0
  have HL1 := hid hl
  have HL2 := hid hl2
  have hlb1 : l ≤ 4000000000000 := by rw [← hl]; exact h.2.1
  have hlb2 : l2 ≤ 4000000000000 := by rw [← hl2]; exact h2.2.1
  clear B0 h h2 hq hl hl2
  obtain ⟨w0, hw0⟩ : ∃ w0, w.alloc (.cells #[.slice y q.N.length s, .int .i64 q.ty, .int .i64 q.cl, .int .i64 q.opc, .bool q.rd, .slice z q.F.length t] 26) = w0 := ⟨_, rfl⟩
  rw [hw0] at KQ H1 H2 QQ WW
  have HW := hid hw0
  clear hw0
  go_enter Try.func4, Try.ntmps4
  go_upto_region 1 with fail
  rw [HW.out]
  clear HW
  go_wp2_with fail
  refine (asked_any w0).mono ?_
  rintro e w1 ⟨rfl, b⟩
  replace KQ := hid (KQ.out.below b)
  replace H1 := hid (H1.out.below b)
  replace H2 := hid (H2.out.below b)
  replace QQ := hid (QQ.out.below b)
  replace WW := hid (grown_on WW.out b)
  clear b
  obtain ⟨c0, c1, k2, c3, c4, c5⟩ := bl6 KQ.out
  by_cases e1 : ruleE r = 0
  rotate_left
  · have EV : Hid (errV (ruleE r) = .iface 47 (.int .i64 (ruleE r))) := hid (errV_some e1)
    have EK := hid e1
    clear e1
    go_wp2_with fail
    refine (rholds_bad r q _ w1 H1.out HL1.out QQ.out EK.out EV.out).mono ?_
    rintro e w2 ⟨rfl, b⟩
    replace KQ := hid (KQ.out.below b)
    replace H2 := hid (H2.out.below b)
    replace QQ := hid (QQ.out.below b)
    replace WW := hid (grown_on WW.out b)
    clear b
    clear c0 c1 k2 c3 c4 c5
    obtain ⟨c0, c1, k2, c3, c4, c5⟩ := bl6 KQ.out
    by_cases e2 : ruleE r2 = 0
    · have E2 := hid e2
      obtain ⟨tr2, hf2, hw2⟩ := ruleE_tree e2
      have F2 := hid hf2
      have V2 := hid hw2
      clear e2 hf2 hw2
      go_wp2_with fail
      refine (rholds_good r2 tr2 q (ev q tr2) w2 H2.out HL2.out QQ.out E2.out F2.out V2.out rfl).mono ?_
      rintro e w3 ⟨rfl, b⟩
      replace WW := hid (grown_on WW.out b)
      clear b
      go_wp2_with fail
      go_ret
      exact ⟨rfl, WW.out⟩
    · have EV2 : Hid (errV (ruleE r2) = .iface 47 (.int .i64 (ruleE r2))) := hid (errV_some e2)
      have EK2 := hid e2
      clear e2
      go_wp2_with fail
      refine (rholds_bad r2 q _ w2 H2.out HL2.out QQ.out EK2.out EV2.out).mono ?_
      rintro e w3 ⟨rfl, b⟩
      replace WW := hid (grown_on WW.out b)
      clear b
      go_wp2_with fail
      go_ret
      exact ⟨rfl, WW.out⟩
  have E1 := hid e1
  obtain ⟨tr, hf, hw⟩ := ruleE_tree e1
  have F1 := hid hf
  have V1 := hid hw
  clear e1 hf hw
  obtain ⟨p, hp⟩ : ∃ p, ev q tr = p := ⟨_, rfl⟩
  have P1 := hid hp
  clear hp
  go_wp2_with fail
  refine (rholds_good r tr q p w1 H1.out HL1.out QQ.out E1.out F1.out V1.out P1.out).mono ?_
  rintro e w2 ⟨rfl, b⟩
  replace KQ := hid (KQ.out.below b)
  replace H1 := hid (H1.out.below b)
  replace H2 := hid (H2.out.below b)
  replace QQ := hid (QQ.out.below b)
  replace WW := hid (grown_on WW.out b)
  clear b
  clear c0 c1 k2 c3 c4 c5
  obtain ⟨c0, c1, k2, c3, c4, c5⟩ := bl6 KQ.out
  by_cases e2 : ruleE r2 = 0
  rotate_left
  · have EV2 : Hid (errV (ruleE r2) = .iface 47 (.int .i64 (ruleE r2))) := hid (errV_some e2)
    have EK2 := hid e2
    clear e2
    go_wp2_with fail
    refine (rholds_bad r2 q _ w2 H2.out HL2.out QQ.out EK2.out EV2.out).mono ?_
    rintro e w3 ⟨rfl, b⟩
    replace WW := hid (grown_on WW.out b)
    clear b
    go_wp2_with fail
    go_ret
    exact ⟨rfl, WW.out⟩
  have E2 := hid e2
  obtain ⟨tr2, hf2, hw2⟩ := ruleE_tree e2
  have F2 := hid hf2
  have V2 := hid hw2
  clear e2 hf2 hw2
  obtain ⟨p2, hp2⟩ : ∃ p, ev q tr2 = p := ⟨_, rfl⟩
  have P2 := hid hp2
  clear hp2
  go_wp2_with fail
  refine (rholds_good r2 tr2 q p2 w2 H2.out HL2.out QQ.out E2.out F2.out V2.out P2.out).mono ?_
  rintro e w3 ⟨rfl, b⟩
  replace KQ := hid (KQ.out.below b)
  replace H1 := hid (H1.out.below b)
  replace H2 := hid (H2.out.below b)
  replace QQ := hid (QQ.out.below b)
  replace WW := hid (grown_on WW.out b)
  clear b
  clear c0 c1 k2 c3 c4 c5
  have hr1 : 1 ≤ l := by have := flat_pos tr; rw [F1.out] at this; have := HL1.out; omega
  have hr2 : 1 ≤ l2 := by have := flat_pos tr2; rw [F2.out] at this; have := HL2.out; omega
  by_cases hsum : 200 < l + l2 + 1
  · have hsum' : (200 : Int) < (l : Int) + (l2 : Int) + 1 := by omega
    go_wp2_with fail
    go_ret
    exact ⟨rfl, WW.out⟩
  have hsum' : ¬ (200 : Int) < (l : Int) + (l2 : Int) + 1 := by omega
  have hs1 : l ≤ 200 := by omega
  have hs2 : l2 ≤ 200 := by omega
  -- both rules one behind the other
  obtain ⟨b1, o1, L1, rfl, hL1, hM1, hC1⟩ := mats_me H1.out (by have := HL1.out; omega)
  obtain ⟨b2, o2, L2, rfl, hL2, hM2, hC2⟩ := mats_me H2.out (by have := HL2.out; omega)
  have A0 := (Below.refl w3.heap.size w3).alloc (Nat.le_refl _) (.cells #[] 36)
  have R0 : Hid (MRow w3 w3.heap.size (w3.alloc (.cells #[] 36)) (.slice (some ⟨w3.heap.size, 0, none⟩) 0 0) []) := hid (mrow_lit (wp := w3) (B := w3.heap.size) [] (Below.refl _ _) (Nat.le_refl _) (fun e he => by simp at he) (by simp))
  have N1 : Hid (L1.length = l) := hid (by rw [← HL1.out, ← hL1, List.length_map])
  have N2 : Hid (L2.length = l2) := hid (by rw [← HL2.out, ← hL2, List.length_map])
  have C1 := hid (fun u (hu : Below w3.heap.size w3 u) j v (hv : (L1.flatMap mcells)[j]? = some v) => (hu.cell (p := (⟨b1, o1, none⟩ : Addr).add j) (cell_in (hC1 j v hv))).trans (hC1 j v hv))
  have C2 := hid (fun u (hu : Below w3.heap.size w3 u) j v (hv : (L2.flatMap mcells)[j]? = some v) => (hu.cell (p := (⟨b2, o2, none⟩ : Addr).add j) (cell_in (hC2 j v hv))).trans (hC2 j v hv))
  have M1 := hid hM1
  have M2 := hid hM2
  have Z1 := hid hL1
  have Z2 := hid hL2
  have D0 := hid A0
  clear hL1 hL2 hM1 hM2 hC1 hC2 A0
  go_upto_region 9 with (first
    | (at_builtin; refine wpList_append_mats L1 rfl _ _ rfl rfl rfl R0.out N1.out (C1.out _ D0.out) M1.out (by simp; omega) (Nat.le_refl _) D0.out.size ?_; rw [Z1.out, List.nil_append]; intro v4 w4 r4 _ b4 _; have R4 := hid r4; have D4 := hid (D0.out.trans b4); clear r4 b4)
    | (at_builtin; refine wpList_append_mats L2 rfl _ _ rfl rfl rfl R4.out N2.out (C2.out _ D4.out) M2.out (by have := HL1.out; omega) (Nat.le_refl _) D4.out.size ?_; rw [Z2.out]; intro v5 w5 r5 _ b5 _; have R5 := hid r5; have D5 := hid (D4.out.trans b5); clear r5 b5))
  -- what the three calls are asked
  have HW5 := hid (KQ.out.below D5.out)
  have Q5 := hid (QQ.out.below D5.out)
  have W5 := hid (grown_on WW.out D5.out)
  have H15 := hid (H1.out.below D5.out)
  obtain ⟨y5, d5, hv5, hm5⟩ := R5.out.mats (by rw [List.length_append, HL1.out, HL2.out]; omega)
  subst hv5
  have HB5 := hid hm5
  have LE : Hid ((r ++ r2).length = l + l2) := hid (by rw [List.length_append, HL1.out, HL2.out])
  have fA : flat (.two (opM 9) tr tr2) = r ++ r2 ++ [opM 9] := by simp only [flat]; rw [F1.out, F2.out]
  have fO : flat (.two (opM 10) tr tr2) = r ++ r2 ++ [opM 10] := by simp only [flat]; rw [F1.out, F2.out]
  have fN : flat (.one (opM 8) tr) = r ++ [opM 8] := by simp only [flat]; rw [F1.out]
  have wA : wf (.two (opM 9) tr tr2) := ⟨rfl, V1.out, V2.out⟩
  have wO : wf (.two (opM 10) tr tr2) := ⟨rfl, V1.out, V2.out⟩
  have wN : wf (.one (opM 8) tr) := ⟨rfl, V1.out⟩
  have nA : ∀ m ∈ r ++ r2, matchE m = 0 := fun m hm => by
    rcases List.mem_append.1 hm with hm | hm
    · exact ruleE_node E1.out m hm
    · exact ruleE_node E2.out m hm
  have eA : ruleE (r ++ r2 ++ [opM 9]) = 0 := by
    rw [← fA]
    refine ruleE_of wA (by rw [fA, List.length_append, LE.out]; simp; omega) fun m hm => ?_
    rw [fA] at hm
    rcases List.mem_append.1 hm with hm | hm
    · exact nA m hm
    · rw [List.mem_singleton.1 hm]; rfl
  have eO : ruleE (r ++ r2 ++ [opM 10]) = 0 := by
    rw [← fO]
    refine ruleE_of wO (by rw [fO, List.length_append, LE.out]; simp; omega) fun m hm => ?_
    rw [fO] at hm
    rcases List.mem_append.1 hm with hm | hm
    · exact nA m hm
    · rw [List.mem_singleton.1 hm]; rfl
  have eN : ruleE (r ++ [opM 8]) = 0 := by
    rw [← fN]
    refine ruleE_of wN (by rw [fN, List.length_append, HL1.out]; simp; omega) fun m hm => ?_
    rw [fN] at hm
    rcases List.mem_append.1 hm with hm | hm
    · exact ruleE_node E1.out m hm
    · rw [List.mem_singleton.1 hm]; rfl
  have GA := hid (fun (u : World) (ya : Option Addr) (da la : Nat) (hm : Mats u ya da (r ++ r2 ++ [opM 9])) (hla : (r ++ r2 ++ [opM 9]).length = la) (hqu : QyIs u q y s z t) => rholds_good (r ++ r2 ++ [opM 9]) (.two (opM 9) tr tr2) q (p && p2) u hm hla hqu eA fA wA (by rw [ev, P1.out, P2.out]; rfl))
  have GO := hid (fun (u : World) (ya : Option Addr) (da la : Nat) (hm : Mats u ya da (r ++ r2 ++ [opM 10])) (hla : (r ++ r2 ++ [opM 10]).length = la) (hqu : QyIs u q y s z t) => rholds_good (r ++ r2 ++ [opM 10]) (.two (opM 10) tr tr2) q (p || p2) u hm hla hqu eO fO wO (by rw [ev, P1.out, P2.out]; rfl))
  have GN := hid (fun (u : World) (ya : Option Addr) (da la : Nat) (hm : Mats u ya da (r ++ [opM 8])) (hla : (r ++ [opM 8]).length = la) (hqu : QyIs u q y s z t) => rholds_good (r ++ [opM 8]) (.one (opM 8) tr) q (!p) u hm hla hqu eN fN wN (by rw [ev, P1.out]))
  clear fA fO fN wA wO wN nA eA eO eN KQ QQ WW H1 H2 R0 R4 R5 D0 D4 C1 C2 M1 M2 Z1 Z2 N1 N2 E1 E2 F1 F2 V1 V2 hm5 L1 L2 D5
  generalize r ++ r2 = rs at *
  have LES : Hid (rs.length ≤ 200) := hid (by rw [LE.out]; omega)
  have LRS : Hid (r.length ≤ 200) := hid (by rw [HL1.out]; omega)
  have HM9 := hid HB5.out
  obtain ⟨bs, os, LS, hbs, hLS, hMS, hCS⟩ := mats_me HB5.out (by rw [LE.out]; omega)
  obtain ⟨x0, x1, x2, x3, x4, x5⟩ := bl6 HW5.out
  have NS : Hid (LS.length = rs.length) := hid (by rw [← hLS, List.length_map])
  have CS := hid (fun u (hu : Below w5.heap.size w5 u) j v (hv : (LS.flatMap mcells)[j]? = some v) => (hu.cell (p := (⟨bs, os, none⟩ : Addr).add j) (cell_in (hCS j v hv))).trans (hCS j v hv))
  have MS := hid hMS
  have ZS := hid hLS
  clear hLS hMS hCS
  cases hbs
  go_cut [13, 14] from 49 to 118 (fun vx ve wx => vx = .bool (p && p2) ∧ ve = .nilIface ∧ Below w5.heap.size w5 wx)
  case first =>
    have l0 : ∀ s' : Ok w5, s'.val.cell? ⟨w.heap.size, 0, none⟩ = some (.slice y q.N.length s) := fun s' => (s'.keeps.cell (p := ⟨w.heap.size, 0, none⟩) HW5.out.lt).trans x0
    have l1 : ∀ s' : Ok w5, s'.val.cell? ⟨w.heap.size, 1, none⟩ = some (.int .i64 q.ty) := fun s' => (s'.keeps.cell (p := ⟨w.heap.size, 1, none⟩) HW5.out.lt).trans x1
    have l2' : ∀ s' : Ok w5, s'.val.cell? ⟨w.heap.size, 2, none⟩ = some (.int .i64 q.cl) := fun s' => (s'.keeps.cell (p := ⟨w.heap.size, 2, none⟩) HW5.out.lt).trans x2
    have l3 : ∀ s' : Ok w5, s'.val.cell? ⟨w.heap.size, 3, none⟩ = some (.int .i64 q.opc) := fun s' => (s'.keeps.cell (p := ⟨w.heap.size, 3, none⟩) HW5.out.lt).trans x3
    have l4 : ∀ s' : Ok w5, s'.val.cell? ⟨w.heap.size, 4, none⟩ = some (.bool q.rd) := fun s' => (s'.keeps.cell (p := ⟨w.heap.size, 4, none⟩) HW5.out.lt).trans x4
    have l5 : ∀ s' : Ok w5, s'.val.cell? ⟨w.heap.size, 5, none⟩ = some (.slice z q.F.length t) := fun s' => (s'.keeps.cell (p := ⟨w.heap.size, 5, none⟩) HW5.out.lt).trans x5
    have hNe : Nonempty (Ok w5) := ⟨⟨w5, Below.refl _ _⟩⟩
    clear x0 x1 x2 x3 x4 x5
    refine wp_region_pt (.qs [1, 3, 6] (.two 0 (.two 2 (.one 4 (.one 5 (.one 7 (.qs [8, 9, 10] (.one 11 (.one 12 .nil)))))) 4 (.one 2 (.one 5 (.one 7 (.qs [8, 9, 10] (.one 11 (.one 12 .nil))))))) 4 (.one 0 (.one 2 (.one 5 (.one 7 (.qs [8, 9, 10] (.one 11 (.one 12 .nil))))))))) (fun u => ∃ s' : Ok w5, u = s'.val) (by kernel_rfl) (by kernel_rfl) ?_
    refine ptL_qs ⟨⟨w5.drew, (Below.refl _ _).drew⟩, rfl⟩ ?_
    change wpQuiet _ _ _ _ [_, _, _] _
    repeat (go_big_quiet_step (fail))
    refine wpQuiet_nil ?_
    have HB := (Below.refl w5.heap.size w5).drew
    clear l0 l1 l2' l3 l4 l5
    refine ⟨?_, ?_⟩
    · skip
      refine stepL_at (by rfl) fun K Q' hK => ?_
      go_simp
      have R0 : MRow w5 w5.heap.size (World.alloc w5.drew (.cells #[] 36)) (.slice (some ⟨w5.heap.size, 0, none⟩) 0 0) [] := (by have e : MRow w5 w5.heap.size (World.alloc w5.drew (.cells #[] 36)) (.slice (some ⟨w5.drew.heap.size, 0, none⟩) 0 0) [] := mrow_lit (wp := w5) (B := w5.heap.size) [] HB HB.size (fun e he => by simp at he) (by simp); (first | exact e | simpa using e))
      replace HB := HB.alloc HB.size (.cells #[] 36)
      refine hK _ _ (fun _ => ⟨⟨_, HB⟩, rfl⟩) ?_
      clear hK
      refine ⟨?_, ?_⟩
      · skip
        refine stepL_at (by rfl) fun K Q' hK => ?_
        refine wp_append_mats (v := .slice (some ⟨w5.heap.size, 0, none⟩) 0 0) LS (.tmp 55) (.tmp 56) rfl rfl rfl R0 NS.out (CS.out _ HB) MS.out (by have := NS.out; have := LES.out; simp; omega) (Nat.le_refl _) HB.size ?_
        intro v1 u1 r1 k1 g1
        rw [ZS.out, List.nil_append] at r1
        replace HB := HB.trans k1
        refine hK _ _ (fun _ => ⟨⟨_, HB⟩, rfl⟩) ?_
        clear hK k1 g1 R0
        refine stepL_at (by rfl) fun K Q' hK => ?_
        go_simp
        have NB : Bl 36 (World.alloc u1 (.cells #[.int .i64 9, .int .i64 0, .slice none 0 0, .slice none 0 0] 36)) u1.heap.size #[.int .i64 9, .int .i64 0, .slice none 0 0, .slice none 0 0] := (by have e := Bl.new 36 u1 #[.int .i64 9, .int .i64 0, .slice none 0 0, .slice none 0 0]; (first | exact e | simpa using e))
        replace r1 := r1.stay ((Below.refl u1.heap.size u1).alloc (Nat.le_refl _) (.cells #[.int .i64 9, .int .i64 0, .slice none 0 0, .slice none 0 0] 36))
        replace HB := HB.alloc HB.size (.cells #[.int .i64 9, .int .i64 0, .slice none 0 0, .slice none 0 0] 36)
        refine hK _ _ (fun _ => ⟨⟨_, HB⟩, rfl⟩) ?_
        clear hK
        refine stepL_at (by rfl) fun K Q' hK => ?_
        refine wp_append_mats [⟨opM 9, none, 0, none, 0⟩] (.tmp 57) (.tmp 59) rfl rfl rfl r1 rfl (one_cellsM [] NB) (fun e he => by rw [List.mem_singleton.1 he]; exact opM_in _ _ (by decide)) (by have := LES.out; simp; omega) (Nat.le_refl _) HB.size ?_
        intro v2 u2 r2' k2 _
        have hm2 := r2'.mats (by have := LES.out; simp; omega)
        obtain ⟨ya, da, rfl, hma⟩ := hm2
        replace HB := HB.trans k2
        refine hK _ _ (fun _ => ⟨⟨_, HB⟩, rfl⟩) ?_
        clear hK k2 r1 r2' NB
        refine stepL_at (by rfl) fun K Q' hK => ?_
        go_simp
        refine (GA.out u2 ya da _ hma (by simp) (Q5.out.below HB)).mono ?_
        rintro e u3 ⟨rfl, k3⟩
        replace HB := HB.trans (k3.mono HB.size)
        refine hK _ _ (fun _ => ⟨⟨_, HB⟩, rfl⟩) ?_
        clear hK k3 hma
        refine ptL_qs ⟨⟨_, HB⟩, rfl⟩ ?_
        change wpQuiet _ _ _ _ [_, _, _] _
        repeat (go_big_quiet_step (fail))
        refine wpQuiet_nil ?_
        refine stepL_at (by rfl) fun K Q' hK => ?_
        go_simp
        refine hK _ _ (fun _ => ⟨⟨_, HB⟩, rfl⟩) ?_
        clear hK
        refine stepL_at (by rfl) fun K Q' hK => ?_
        go_simp
        refine hK _ _ (fun _ => ⟨⟨_, HB⟩, rfl⟩) ?_
        clear hK
        refine ptL_nil ?_
        go_wp2
        go_meet
        exact ⟨rfl, rfl, HB⟩
      · skip
        refine stepL_at (by rfl) fun K Q' hK => ?_
        go_simp
        have NB : Bl 36 (World.alloc (World.alloc w5.drew (.cells #[] 36)) (.cells #[.int .i64 9, .int .i64 0, .slice none 0 0, .slice none 0 0] 36)) (w5.heap.size + 1) #[.int .i64 9, .int .i64 0, .slice none 0 0, .slice none 0 0] := (by have e := Bl.new 36 (World.alloc w5.drew (.cells #[] 36)) #[.int .i64 9, .int .i64 0, .slice none 0 0, .slice none 0 0]; (first | exact e | simpa using e))
        replace R0 := R0.stay ((Below.refl (World.alloc w5.drew (.cells #[] 36)).heap.size (World.alloc w5.drew (.cells #[] 36))).alloc (Nat.le_refl _) (.cells #[.int .i64 9, .int .i64 0, .slice none 0 0, .slice none 0 0] 36))
        replace HB := HB.alloc HB.size (.cells #[.int .i64 9, .int .i64 0, .slice none 0 0, .slice none 0 0] 36)
        refine hK _ _ (fun _ => ⟨⟨_, HB⟩, rfl⟩) ?_
        clear hK
        refine stepL_at (by rfl) fun K Q' hK => ?_
        refine wp_append_mats (v := .slice (some ⟨w5.heap.size, 0, none⟩) 0 0) LS (.tmp 55) (.tmp 56) rfl rfl rfl R0 NS.out (CS.out _ HB) MS.out (by have := NS.out; have := LES.out; simp; omega) (Nat.le_refl _) HB.size ?_
        intro v1 u1 r1 k1 g1
        rw [ZS.out, List.nil_append] at r1
        replace NB := blGrown NB g1 (by simp [Value.ownBlock])
        replace HB := HB.trans k1
        refine hK _ _ (fun _ => ⟨⟨_, HB⟩, rfl⟩) ?_
        clear hK k1 g1 R0
        refine stepL_at (by rfl) fun K Q' hK => ?_
        refine wp_append_mats [⟨opM 9, none, 0, none, 0⟩] (.tmp 57) (.tmp 59) rfl rfl rfl r1 rfl (one_cellsM [] NB) (fun e he => by rw [List.mem_singleton.1 he]; exact opM_in _ _ (by decide)) (by have := LES.out; simp; omega) (Nat.le_refl _) HB.size ?_
        intro v2 u2 r2' k2 _
        have hm2 := r2'.mats (by have := LES.out; simp; omega)
        obtain ⟨ya, da, rfl, hma⟩ := hm2
        replace HB := HB.trans k2
        refine hK _ _ (fun _ => ⟨⟨_, HB⟩, rfl⟩) ?_
        clear hK k2 r1 r2' NB
        refine stepL_at (by rfl) fun K Q' hK => ?_
        go_simp
        refine (GA.out u2 ya da _ hma (by simp) (Q5.out.below HB)).mono ?_
        rintro e u3 ⟨rfl, k3⟩
        replace HB := HB.trans (k3.mono HB.size)
        refine hK _ _ (fun _ => ⟨⟨_, HB⟩, rfl⟩) ?_
        clear hK k3 hma
        refine ptL_qs ⟨⟨_, HB⟩, rfl⟩ ?_
        change wpQuiet _ _ _ _ [_, _, _] _
        repeat (go_big_quiet_step (fail))
        refine wpQuiet_nil ?_
        refine stepL_at (by rfl) fun K Q' hK => ?_
        go_simp
        refine hK _ _ (fun _ => ⟨⟨_, HB⟩, rfl⟩) ?_
        clear hK
        refine stepL_at (by rfl) fun K Q' hK => ?_
        go_simp
        refine hK _ _ (fun _ => ⟨⟨_, HB⟩, rfl⟩) ?_
        clear hK
        refine ptL_nil ?_
        go_wp2
        go_meet
        exact ⟨rfl, rfl, HB⟩
    · skip
      refine stepL_at (by rfl) fun K Q' hK => ?_
      go_simp
      have NB : Bl 36 (World.alloc w5.drew (.cells #[.int .i64 9, .int .i64 0, .slice none 0 0, .slice none 0 0] 36)) w5.heap.size #[.int .i64 9, .int .i64 0, .slice none 0 0, .slice none 0 0] := (by have e := Bl.new 36 w5.drew #[.int .i64 9, .int .i64 0, .slice none 0 0, .slice none 0 0]; (first | exact e | simpa using e))
      replace HB := HB.alloc HB.size (.cells #[.int .i64 9, .int .i64 0, .slice none 0 0, .slice none 0 0] 36)
      refine hK _ _ (fun _ => ⟨⟨_, HB⟩, rfl⟩) ?_
      clear hK
      refine stepL_at (by rfl) fun K Q' hK => ?_
      go_simp
      have R0 : MRow w5 w5.heap.size (World.alloc (World.alloc w5.drew (.cells #[.int .i64 9, .int .i64 0, .slice none 0 0, .slice none 0 0] 36)) (.cells #[] 36)) (.slice (some ⟨w5.heap.size + 1, 0, none⟩) 0 0) [] := (by have e : MRow w5 w5.heap.size (World.alloc (World.alloc w5.drew (.cells #[.int .i64 9, .int .i64 0, .slice none 0 0, .slice none 0 0] 36)) (.cells #[] 36)) (.slice (some ⟨(World.alloc w5.drew (.cells #[.int .i64 9, .int .i64 0, .slice none 0 0, .slice none 0 0] 36)).heap.size, 0, none⟩) 0 0) [] := mrow_lit (wp := w5) (B := w5.heap.size) [] HB HB.size (fun e he => by simp at he) (by simp); (first | exact e | simpa using e))
      replace HB := HB.alloc HB.size (.cells #[] 36)
      replace NB := NB.below ((Below.refl _ _).alloc (Nat.le_refl _) (.cells #[] 36))
      refine hK _ _ (fun _ => ⟨⟨_, HB⟩, rfl⟩) ?_
      clear hK
      refine stepL_at (by rfl) fun K Q' hK => ?_
      refine wp_append_mats (v := .slice (some ⟨w5.heap.size + 1, 0, none⟩) 0 0) LS (.tmp 55) (.tmp 56) rfl rfl rfl R0 NS.out (CS.out _ HB) MS.out (by have := NS.out; have := LES.out; simp; omega) (Nat.le_refl _) HB.size ?_
      intro v1 u1 r1 k1 g1
      rw [ZS.out, List.nil_append] at r1
      replace NB := blGrown NB g1 (by simp [Value.ownBlock])
      replace HB := HB.trans k1
      refine hK _ _ (fun _ => ⟨⟨_, HB⟩, rfl⟩) ?_
      clear hK k1 g1 R0
      refine stepL_at (by rfl) fun K Q' hK => ?_
      refine wp_append_mats [⟨opM 9, none, 0, none, 0⟩] (.tmp 57) (.tmp 59) rfl rfl rfl r1 rfl (one_cellsM [] NB) (fun e he => by rw [List.mem_singleton.1 he]; exact opM_in _ _ (by decide)) (by have := LES.out; simp; omega) (Nat.le_refl _) HB.size ?_
      intro v2 u2 r2' k2 _
      have hm2 := r2'.mats (by have := LES.out; simp; omega)
      obtain ⟨ya, da, rfl, hma⟩ := hm2
      replace HB := HB.trans k2
      refine hK _ _ (fun _ => ⟨⟨_, HB⟩, rfl⟩) ?_
      clear hK k2 r1 r2' NB
      refine stepL_at (by rfl) fun K Q' hK => ?_
      go_simp
      refine (GA.out u2 ya da _ hma (by simp) (Q5.out.below HB)).mono ?_
      rintro e u3 ⟨rfl, k3⟩
      replace HB := HB.trans (k3.mono HB.size)
      refine hK _ _ (fun _ => ⟨⟨_, HB⟩, rfl⟩) ?_
      clear hK k3 hma
      refine ptL_qs ⟨⟨_, HB⟩, rfl⟩ ?_
      change wpQuiet _ _ _ _ [_, _, _] _
      repeat (go_big_quiet_step (fail))
      refine wpQuiet_nil ?_
      refine stepL_at (by rfl) fun K Q' hK => ?_
      go_simp
      refine hK _ _ (fun _ => ⟨⟨_, HB⟩, rfl⟩) ?_
      clear hK
      refine stepL_at (by rfl) fun K Q' hK => ?_
      go_simp
      refine hK _ _ (fun _ => ⟨⟨_, HB⟩, rfl⟩) ?_
      clear hK
      refine ptL_nil ?_
      go_wp2
      go_meet
      exact ⟨rfl, rfl, HB⟩
  case rest =>
    obtain ⟨rfl, rfl, d⟩ := hcut
    replace W5 := hid (grown_on W5.out d)
    replace HW5 := hid (HW5.out.below d)
    replace Q5 := hid (Q5.out.below d)
    replace HB5 := hid (HB5.out.below d)
    replace H15 := hid (H15.out.below d)
    clear d x0 x1 x2 x3 x4 x5 NS CS MS ZS
    go_upto_region 10 with fail
    obtain ⟨bs, os, LS, hbs, hLS, hMS, hCS⟩ := mats_me HB5.out (by rw [LE.out]; omega)
    obtain ⟨x0, x1, x2, x3, x4, x5⟩ := bl6 HW5.out
    have NS : Hid (LS.length = rs.length) := hid (by rw [← hLS, List.length_map])
    have CS := hid (fun u (hu : Below wc.heap.size wc u) j v (hv : (LS.flatMap mcells)[j]? = some v) => (hu.cell (p := (⟨bs, os, none⟩ : Addr).add j) (cell_in (hCS j v hv))).trans (hCS j v hv))
    have MS := hid hMS
    have ZS := hid hLS
    clear hLS hMS hCS
    cases hbs
    go_cut [15, 16] from 49 to 118 (fun vx ve wx => vx = .bool (p || p2) ∧ ve = .nilIface ∧ Below wc.heap.size wc wx)
    case first =>
      have l0 : ∀ s' : Ok wc, s'.val.cell? ⟨w.heap.size, 0, none⟩ = some (.slice y q.N.length s) := fun s' => (s'.keeps.cell (p := ⟨w.heap.size, 0, none⟩) HW5.out.lt).trans x0
      have l1 : ∀ s' : Ok wc, s'.val.cell? ⟨w.heap.size, 1, none⟩ = some (.int .i64 q.ty) := fun s' => (s'.keeps.cell (p := ⟨w.heap.size, 1, none⟩) HW5.out.lt).trans x1
      have l2' : ∀ s' : Ok wc, s'.val.cell? ⟨w.heap.size, 2, none⟩ = some (.int .i64 q.cl) := fun s' => (s'.keeps.cell (p := ⟨w.heap.size, 2, none⟩) HW5.out.lt).trans x2
      have l3 : ∀ s' : Ok wc, s'.val.cell? ⟨w.heap.size, 3, none⟩ = some (.int .i64 q.opc) := fun s' => (s'.keeps.cell (p := ⟨w.heap.size, 3, none⟩) HW5.out.lt).trans x3
      have l4 : ∀ s' : Ok wc, s'.val.cell? ⟨w.heap.size, 4, none⟩ = some (.bool q.rd) := fun s' => (s'.keeps.cell (p := ⟨w.heap.size, 4, none⟩) HW5.out.lt).trans x4
      have l5 : ∀ s' : Ok wc, s'.val.cell? ⟨w.heap.size, 5, none⟩ = some (.slice z q.F.length t) := fun s' => (s'.keeps.cell (p := ⟨w.heap.size, 5, none⟩) HW5.out.lt).trans x5
      have hNe : Nonempty (Ok wc) := ⟨⟨wc, Below.refl _ _⟩⟩
      clear x0 x1 x2 x3 x4 x5
      refine wp_region_pt (.qs [1, 3, 6] (.two 0 (.two 2 (.one 4 (.one 5 (.one 7 (.qs [8, 9, 10] (.one 11 (.one 12 .nil)))))) 4 (.one 2 (.one 5 (.one 7 (.qs [8, 9, 10] (.one 11 (.one 12 .nil))))))) 4 (.one 0 (.one 2 (.one 5 (.one 7 (.qs [8, 9, 10] (.one 11 (.one 12 .nil))))))))) (fun u => ∃ s' : Ok wc, u = s'.val) (by kernel_rfl) (by kernel_rfl) ?_
      refine ptL_qs ⟨⟨wc.drew, (Below.refl _ _).drew⟩, rfl⟩ ?_
      change wpQuiet _ _ _ _ [_, _, _] _
      repeat (go_big_quiet_step (fail))
      refine wpQuiet_nil ?_
      have HB := (Below.refl wc.heap.size wc).drew
      clear l0 l1 l2' l3 l4 l5
      refine ⟨?_, ?_⟩
      · skip
        refine stepL_at (by rfl) fun K Q' hK => ?_
        go_simp
        have R0 : MRow wc wc.heap.size (World.alloc wc.drew (.cells #[] 36)) (.slice (some ⟨wc.heap.size, 0, none⟩) 0 0) [] := (by have e : MRow wc wc.heap.size (World.alloc wc.drew (.cells #[] 36)) (.slice (some ⟨wc.drew.heap.size, 0, none⟩) 0 0) [] := mrow_lit (wp := wc) (B := wc.heap.size) [] HB HB.size (fun e he => by simp at he) (by simp); (first | exact e | simpa using e))
        replace HB := HB.alloc HB.size (.cells #[] 36)
        refine hK _ _ (fun _ => ⟨⟨_, HB⟩, rfl⟩) ?_
        clear hK
        refine ⟨?_, ?_⟩
        · skip
          refine stepL_at (by rfl) fun K Q' hK => ?_
          refine wp_append_mats (v := .slice (some ⟨wc.heap.size, 0, none⟩) 0 0) LS (.tmp 66) (.tmp 67) rfl rfl rfl R0 NS.out (CS.out _ HB) MS.out (by have := NS.out; have := LES.out; simp; omega) (Nat.le_refl _) HB.size ?_
          intro v1 u1 r1 k1 g1
          rw [ZS.out, List.nil_append] at r1
          replace HB := HB.trans k1
          refine hK _ _ (fun _ => ⟨⟨_, HB⟩, rfl⟩) ?_
          clear hK k1 g1 R0
          refine stepL_at (by rfl) fun K Q' hK => ?_
          go_simp
          have NB : Bl 36 (World.alloc u1 (.cells #[.int .i64 10, .int .i64 0, .slice none 0 0, .slice none 0 0] 36)) u1.heap.size #[.int .i64 10, .int .i64 0, .slice none 0 0, .slice none 0 0] := (by have e := Bl.new 36 u1 #[.int .i64 10, .int .i64 0, .slice none 0 0, .slice none 0 0]; (first | exact e | simpa using e))
          replace r1 := r1.stay ((Below.refl u1.heap.size u1).alloc (Nat.le_refl _) (.cells #[.int .i64 10, .int .i64 0, .slice none 0 0, .slice none 0 0] 36))
          replace HB := HB.alloc HB.size (.cells #[.int .i64 10, .int .i64 0, .slice none 0 0, .slice none 0 0] 36)
          refine hK _ _ (fun _ => ⟨⟨_, HB⟩, rfl⟩) ?_
          clear hK
          refine stepL_at (by rfl) fun K Q' hK => ?_
          refine wp_append_mats [⟨opM 10, none, 0, none, 0⟩] (.tmp 68) (.tmp 70) rfl rfl rfl r1 rfl (one_cellsM [] NB) (fun e he => by rw [List.mem_singleton.1 he]; exact opM_in _ _ (by decide)) (by have := LES.out; simp; omega) (Nat.le_refl _) HB.size ?_
          intro v2 u2 r2' k2 _
          have hm2 := r2'.mats (by have := LES.out; simp; omega)
          obtain ⟨ya, da, rfl, hma⟩ := hm2
          replace HB := HB.trans k2
          refine hK _ _ (fun _ => ⟨⟨_, HB⟩, rfl⟩) ?_
          clear hK k2 r1 r2' NB
          refine stepL_at (by rfl) fun K Q' hK => ?_
          go_simp
          refine (GO.out u2 ya da _ hma (by simp) (Q5.out.below HB)).mono ?_
          rintro e u3 ⟨rfl, k3⟩
          replace HB := HB.trans (k3.mono HB.size)
          refine hK _ _ (fun _ => ⟨⟨_, HB⟩, rfl⟩) ?_
          clear hK k3 hma
          refine ptL_qs ⟨⟨_, HB⟩, rfl⟩ ?_
          change wpQuiet _ _ _ _ [_, _, _] _
          repeat (go_big_quiet_step (fail))
          refine wpQuiet_nil ?_
          refine stepL_at (by rfl) fun K Q' hK => ?_
          go_simp
          refine hK _ _ (fun _ => ⟨⟨_, HB⟩, rfl⟩) ?_
          clear hK
          refine stepL_at (by rfl) fun K Q' hK => ?_
          go_simp
          refine hK _ _ (fun _ => ⟨⟨_, HB⟩, rfl⟩) ?_
          clear hK
          refine ptL_nil ?_
          go_wp2
          go_meet
          exact ⟨rfl, rfl, HB⟩
        · skip
          refine stepL_at (by rfl) fun K Q' hK => ?_
          go_simp
          have NB : Bl 36 (World.alloc (World.alloc wc.drew (.cells #[] 36)) (.cells #[.int .i64 10, .int .i64 0, .slice none 0 0, .slice none 0 0] 36)) (wc.heap.size + 1) #[.int .i64 10, .int .i64 0, .slice none 0 0, .slice none 0 0] := (by have e := Bl.new 36 (World.alloc wc.drew (.cells #[] 36)) #[.int .i64 10, .int .i64 0, .slice none 0 0, .slice none 0 0]; (first | exact e | simpa using e))
          replace R0 := R0.stay ((Below.refl (World.alloc wc.drew (.cells #[] 36)).heap.size (World.alloc wc.drew (.cells #[] 36))).alloc (Nat.le_refl _) (.cells #[.int .i64 10, .int .i64 0, .slice none 0 0, .slice none 0 0] 36))
          replace HB := HB.alloc HB.size (.cells #[.int .i64 10, .int .i64 0, .slice none 0 0, .slice none 0 0] 36)
          refine hK _ _ (fun _ => ⟨⟨_, HB⟩, rfl⟩) ?_
          clear hK
          refine stepL_at (by rfl) fun K Q' hK => ?_
          refine wp_append_mats (v := .slice (some ⟨wc.heap.size, 0, none⟩) 0 0) LS (.tmp 66) (.tmp 67) rfl rfl rfl R0 NS.out (CS.out _ HB) MS.out (by have := NS.out; have := LES.out; simp; omega) (Nat.le_refl _) HB.size ?_
          intro v1 u1 r1 k1 g1
          rw [ZS.out, List.nil_append] at r1
          replace NB := blGrown NB g1 (by simp [Value.ownBlock])
          replace HB := HB.trans k1
          refine hK _ _ (fun _ => ⟨⟨_, HB⟩, rfl⟩) ?_
          clear hK k1 g1 R0
          refine stepL_at (by rfl) fun K Q' hK => ?_
          refine wp_append_mats [⟨opM 10, none, 0, none, 0⟩] (.tmp 68) (.tmp 70) rfl rfl rfl r1 rfl (one_cellsM [] NB) (fun e he => by rw [List.mem_singleton.1 he]; exact opM_in _ _ (by decide)) (by have := LES.out; simp; omega) (Nat.le_refl _) HB.size ?_
          intro v2 u2 r2' k2 _
          have hm2 := r2'.mats (by have := LES.out; simp; omega)
          obtain ⟨ya, da, rfl, hma⟩ := hm2
          replace HB := HB.trans k2
          refine hK _ _ (fun _ => ⟨⟨_, HB⟩, rfl⟩) ?_
          clear hK k2 r1 r2' NB
          refine stepL_at (by rfl) fun K Q' hK => ?_
          go_simp
          refine (GO.out u2 ya da _ hma (by simp) (Q5.out.below HB)).mono ?_
          rintro e u3 ⟨rfl, k3⟩
          replace HB := HB.trans (k3.mono HB.size)
          refine hK _ _ (fun _ => ⟨⟨_, HB⟩, rfl⟩) ?_
          clear hK k3 hma
          refine ptL_qs ⟨⟨_, HB⟩, rfl⟩ ?_
          change wpQuiet _ _ _ _ [_, _, _] _
          repeat (go_big_quiet_step (fail))
          refine wpQuiet_nil ?_
          refine stepL_at (by rfl) fun K Q' hK => ?_
          go_simp
          refine hK _ _ (fun _ => ⟨⟨_, HB⟩, rfl⟩) ?_
          clear hK
          refine stepL_at (by rfl) fun K Q' hK => ?_
          go_simp
          refine hK _ _ (fun _ => ⟨⟨_, HB⟩, rfl⟩) ?_
          clear hK
          refine ptL_nil ?_
          go_wp2
          go_meet
          exact ⟨rfl, rfl, HB⟩
      · skip
        refine stepL_at (by rfl) fun K Q' hK => ?_
        go_simp
        have NB : Bl 36 (World.alloc wc.drew (.cells #[.int .i64 10, .int .i64 0, .slice none 0 0, .slice none 0 0] 36)) wc.heap.size #[.int .i64 10, .int .i64 0, .slice none 0 0, .slice none 0 0] := (by have e := Bl.new 36 wc.drew #[.int .i64 10, .int .i64 0, .slice none 0 0, .slice none 0 0]; (first | exact e | simpa using e))
        replace HB := HB.alloc HB.size (.cells #[.int .i64 10, .int .i64 0, .slice none 0 0, .slice none 0 0] 36)
        refine hK _ _ (fun _ => ⟨⟨_, HB⟩, rfl⟩) ?_
        clear hK
        refine stepL_at (by rfl) fun K Q' hK => ?_
        go_simp
        have R0 : MRow wc wc.heap.size (World.alloc (World.alloc wc.drew (.cells #[.int .i64 10, .int .i64 0, .slice none 0 0, .slice none 0 0] 36)) (.cells #[] 36)) (.slice (some ⟨wc.heap.size + 1, 0, none⟩) 0 0) [] := (by have e : MRow wc wc.heap.size (World.alloc (World.alloc wc.drew (.cells #[.int .i64 10, .int .i64 0, .slice none 0 0, .slice none 0 0] 36)) (.cells #[] 36)) (.slice (some ⟨(World.alloc wc.drew (.cells #[.int .i64 10, .int .i64 0, .slice none 0 0, .slice none 0 0] 36)).heap.size, 0, none⟩) 0 0) [] := mrow_lit (wp := wc) (B := wc.heap.size) [] HB HB.size (fun e he => by simp at he) (by simp); (first | exact e | simpa using e))
        replace HB := HB.alloc HB.size (.cells #[] 36)
        replace NB := NB.below ((Below.refl _ _).alloc (Nat.le_refl _) (.cells #[] 36))
        refine hK _ _ (fun _ => ⟨⟨_, HB⟩, rfl⟩) ?_
        clear hK
        refine stepL_at (by rfl) fun K Q' hK => ?_
        refine wp_append_mats (v := .slice (some ⟨wc.heap.size + 1, 0, none⟩) 0 0) LS (.tmp 66) (.tmp 67) rfl rfl rfl R0 NS.out (CS.out _ HB) MS.out (by have := NS.out; have := LES.out; simp; omega) (Nat.le_refl _) HB.size ?_
        intro v1 u1 r1 k1 g1
        rw [ZS.out, List.nil_append] at r1
        replace NB := blGrown NB g1 (by simp [Value.ownBlock])
        replace HB := HB.trans k1
        refine hK _ _ (fun _ => ⟨⟨_, HB⟩, rfl⟩) ?_
        clear hK k1 g1 R0
        refine stepL_at (by rfl) fun K Q' hK => ?_
        refine wp_append_mats [⟨opM 10, none, 0, none, 0⟩] (.tmp 68) (.tmp 70) rfl rfl rfl r1 rfl (one_cellsM [] NB) (fun e he => by rw [List.mem_singleton.1 he]; exact opM_in _ _ (by decide)) (by have := LES.out; simp; omega) (Nat.le_refl _) HB.size ?_
        intro v2 u2 r2' k2 _
        have hm2 := r2'.mats (by have := LES.out; simp; omega)
        obtain ⟨ya, da, rfl, hma⟩ := hm2
        replace HB := HB.trans k2
        refine hK _ _ (fun _ => ⟨⟨_, HB⟩, rfl⟩) ?_
        clear hK k2 r1 r2' NB
        refine stepL_at (by rfl) fun K Q' hK => ?_
        go_simp
        refine (GO.out u2 ya da _ hma (by simp) (Q5.out.below HB)).mono ?_
        rintro e u3 ⟨rfl, k3⟩
        replace HB := HB.trans (k3.mono HB.size)
        refine hK _ _ (fun _ => ⟨⟨_, HB⟩, rfl⟩) ?_
        clear hK k3 hma
        refine ptL_qs ⟨⟨_, HB⟩, rfl⟩ ?_
        change wpQuiet _ _ _ _ [_, _, _] _
        repeat (go_big_quiet_step (fail))
        refine wpQuiet_nil ?_
        refine stepL_at (by rfl) fun K Q' hK => ?_
        go_simp
        refine hK _ _ (fun _ => ⟨⟨_, HB⟩, rfl⟩) ?_
        clear hK
        refine stepL_at (by rfl) fun K Q' hK => ?_
        go_simp
        refine hK _ _ (fun _ => ⟨⟨_, HB⟩, rfl⟩) ?_
        clear hK
        refine ptL_nil ?_
        go_wp2
        go_meet
        exact ⟨rfl, rfl, HB⟩
    case rest =>
      obtain ⟨rfl, rfl, d⟩ := hcut
      replace W5 := hid (grown_on W5.out d)
      replace HW5 := hid (HW5.out.below d)
      replace Q5 := hid (Q5.out.below d)
      replace H15 := hid (H15.out.below d)
      clear d x0 x1 x2 x3 x4 x5 NS CS MS ZS
      go_upto_region 11 with fail
      obtain ⟨bs, os, LS, hbs, hLS, hMS, hCS⟩ := mats_me H15.out (by rw [HL1.out]; omega)
      obtain ⟨x0, x1, x2, x3, x4, x5⟩ := bl6 HW5.out
      have NS : Hid (LS.length = l) := hid (by rw [← HL1.out, ← hLS, List.length_map])
      have CS := hid (fun u (hu : Below wc.heap.size wc u) j v (hv : (LS.flatMap mcells)[j]? = some v) => (hu.cell (p := (⟨bs, os, none⟩ : Addr).add j) (cell_in (hCS j v hv))).trans (hCS j v hv))
      have MS := hid hMS
      have ZS := hid hLS
      clear hLS hMS hCS
      cases hbs
      go_cut [17, 18] from 49 to 118 (fun vx ve wx => vx = .bool (!p) ∧ ve = .nilIface ∧ Below wc.heap.size wc wx)
      case first =>
        have l0 : ∀ s' : Ok wc, s'.val.cell? ⟨w.heap.size, 0, none⟩ = some (.slice y q.N.length s) := fun s' => (s'.keeps.cell (p := ⟨w.heap.size, 0, none⟩) HW5.out.lt).trans x0
        have l1 : ∀ s' : Ok wc, s'.val.cell? ⟨w.heap.size, 1, none⟩ = some (.int .i64 q.ty) := fun s' => (s'.keeps.cell (p := ⟨w.heap.size, 1, none⟩) HW5.out.lt).trans x1
        have l2' : ∀ s' : Ok wc, s'.val.cell? ⟨w.heap.size, 2, none⟩ = some (.int .i64 q.cl) := fun s' => (s'.keeps.cell (p := ⟨w.heap.size, 2, none⟩) HW5.out.lt).trans x2
        have l3 : ∀ s' : Ok wc, s'.val.cell? ⟨w.heap.size, 3, none⟩ = some (.int .i64 q.opc) := fun s' => (s'.keeps.cell (p := ⟨w.heap.size, 3, none⟩) HW5.out.lt).trans x3
        have l4 : ∀ s' : Ok wc, s'.val.cell? ⟨w.heap.size, 4, none⟩ = some (.bool q.rd) := fun s' => (s'.keeps.cell (p := ⟨w.heap.size, 4, none⟩) HW5.out.lt).trans x4
        have l5 : ∀ s' : Ok wc, s'.val.cell? ⟨w.heap.size, 5, none⟩ = some (.slice z q.F.length t) := fun s' => (s'.keeps.cell (p := ⟨w.heap.size, 5, none⟩) HW5.out.lt).trans x5
        have hNe : Nonempty (Ok wc) := ⟨⟨wc, Below.refl _ _⟩⟩
        clear x0 x1 x2 x3 x4 x5
        refine wp_region_pt (.qs [1, 3, 6] (.two 0 (.two 2 (.one 4 (.one 5 (.one 7 (.qs [8, 9, 10] (.one 11 (.one 12 .nil)))))) 4 (.one 2 (.one 5 (.one 7 (.qs [8, 9, 10] (.one 11 (.one 12 .nil))))))) 4 (.one 0 (.one 2 (.one 5 (.one 7 (.qs [8, 9, 10] (.one 11 (.one 12 .nil))))))))) (fun u => ∃ s' : Ok wc, u = s'.val) (by kernel_rfl) (by kernel_rfl) ?_
        refine ptL_qs ⟨⟨wc.drew, (Below.refl _ _).drew⟩, rfl⟩ ?_
        change wpQuiet _ _ _ _ [_, _, _] _
        repeat (go_big_quiet_step (fail))
        refine wpQuiet_nil ?_
        have HB := (Below.refl wc.heap.size wc).drew
        clear l0 l1 l2' l3 l4 l5
        refine ⟨?_, ?_⟩
        · skip
          refine stepL_at (by rfl) fun K Q' hK => ?_
          go_simp
          have R0 : MRow wc wc.heap.size (World.alloc wc.drew (.cells #[] 36)) (.slice (some ⟨wc.heap.size, 0, none⟩) 0 0) [] := (by have e : MRow wc wc.heap.size (World.alloc wc.drew (.cells #[] 36)) (.slice (some ⟨wc.drew.heap.size, 0, none⟩) 0 0) [] := mrow_lit (wp := wc) (B := wc.heap.size) [] HB HB.size (fun e he => by simp at he) (by simp); (first | exact e | simpa using e))
          replace HB := HB.alloc HB.size (.cells #[] 36)
          refine hK _ _ (fun _ => ⟨⟨_, HB⟩, rfl⟩) ?_
          clear hK
          refine ⟨?_, ?_⟩
          · skip
            refine stepL_at (by rfl) fun K Q' hK => ?_
            refine wp_append_mats (v := .slice (some ⟨wc.heap.size, 0, none⟩) 0 0) LS (.tmp 77) (.tmp 78) rfl rfl rfl R0 NS.out (CS.out _ HB) MS.out (by have := NS.out; have := LRS.out; simp; omega) (Nat.le_refl _) HB.size ?_
            intro v1 u1 r1 k1 g1
            rw [ZS.out, List.nil_append] at r1
            replace HB := HB.trans k1
            refine hK _ _ (fun _ => ⟨⟨_, HB⟩, rfl⟩) ?_
            clear hK k1 g1 R0
            refine stepL_at (by rfl) fun K Q' hK => ?_
            go_simp
            have NB : Bl 36 (World.alloc u1 (.cells #[.int .i64 8, .int .i64 0, .slice none 0 0, .slice none 0 0] 36)) u1.heap.size #[.int .i64 8, .int .i64 0, .slice none 0 0, .slice none 0 0] := (by have e := Bl.new 36 u1 #[.int .i64 8, .int .i64 0, .slice none 0 0, .slice none 0 0]; (first | exact e | simpa using e))
            replace r1 := r1.stay ((Below.refl u1.heap.size u1).alloc (Nat.le_refl _) (.cells #[.int .i64 8, .int .i64 0, .slice none 0 0, .slice none 0 0] 36))
            replace HB := HB.alloc HB.size (.cells #[.int .i64 8, .int .i64 0, .slice none 0 0, .slice none 0 0] 36)
            refine hK _ _ (fun _ => ⟨⟨_, HB⟩, rfl⟩) ?_
            clear hK
            refine stepL_at (by rfl) fun K Q' hK => ?_
            refine wp_append_mats [⟨opM 8, none, 0, none, 0⟩] (.tmp 79) (.tmp 81) rfl rfl rfl r1 rfl (one_cellsM [] NB) (fun e he => by rw [List.mem_singleton.1 he]; exact opM_in _ _ (by decide)) (by have := LRS.out; simp; omega) (Nat.le_refl _) HB.size ?_
            intro v2 u2 r2' k2 _
            have hm2 := r2'.mats (by have := LRS.out; simp; omega)
            obtain ⟨ya, da, rfl, hma⟩ := hm2
            replace HB := HB.trans k2
            refine hK _ _ (fun _ => ⟨⟨_, HB⟩, rfl⟩) ?_
            clear hK k2 r1 r2' NB
            refine stepL_at (by rfl) fun K Q' hK => ?_
            go_simp
            refine (GN.out u2 ya da _ hma (by simp) (Q5.out.below HB)).mono ?_
            rintro e u3 ⟨rfl, k3⟩
            replace HB := HB.trans (k3.mono HB.size)
            refine hK _ _ (fun _ => ⟨⟨_, HB⟩, rfl⟩) ?_
            clear hK k3 hma
            refine ptL_qs ⟨⟨_, HB⟩, rfl⟩ ?_
            change wpQuiet _ _ _ _ [_, _, _] _
            repeat (go_big_quiet_step (fail))
            refine wpQuiet_nil ?_
            refine stepL_at (by rfl) fun K Q' hK => ?_
            go_simp
            refine hK _ _ (fun _ => ⟨⟨_, HB⟩, rfl⟩) ?_
            clear hK
            refine stepL_at (by rfl) fun K Q' hK => ?_
            go_simp
            refine hK _ _ (fun _ => ⟨⟨_, HB⟩, rfl⟩) ?_
            clear hK
            refine ptL_nil ?_
            go_wp2
            go_meet
            exact ⟨rfl, rfl, HB⟩
          · skip
            refine stepL_at (by rfl) fun K Q' hK => ?_
            go_simp
            have NB : Bl 36 (World.alloc (World.alloc wc.drew (.cells #[] 36)) (.cells #[.int .i64 8, .int .i64 0, .slice none 0 0, .slice none 0 0] 36)) (wc.heap.size + 1) #[.int .i64 8, .int .i64 0, .slice none 0 0, .slice none 0 0] := (by have e := Bl.new 36 (World.alloc wc.drew (.cells #[] 36)) #[.int .i64 8, .int .i64 0, .slice none 0 0, .slice none 0 0]; (first | exact e | simpa using e))
            replace R0 := R0.stay ((Below.refl (World.alloc wc.drew (.cells #[] 36)).heap.size (World.alloc wc.drew (.cells #[] 36))).alloc (Nat.le_refl _) (.cells #[.int .i64 8, .int .i64 0, .slice none 0 0, .slice none 0 0] 36))
            replace HB := HB.alloc HB.size (.cells #[.int .i64 8, .int .i64 0, .slice none 0 0, .slice none 0 0] 36)
            refine hK _ _ (fun _ => ⟨⟨_, HB⟩, rfl⟩) ?_
            clear hK
            refine stepL_at (by rfl) fun K Q' hK => ?_
            refine wp_append_mats (v := .slice (some ⟨wc.heap.size, 0, none⟩) 0 0) LS (.tmp 77) (.tmp 78) rfl rfl rfl R0 NS.out (CS.out _ HB) MS.out (by have := NS.out; have := LRS.out; simp; omega) (Nat.le_refl _) HB.size ?_
            intro v1 u1 r1 k1 g1
            rw [ZS.out, List.nil_append] at r1
            replace NB := blGrown NB g1 (by simp [Value.ownBlock])
            replace HB := HB.trans k1
            refine hK _ _ (fun _ => ⟨⟨_, HB⟩, rfl⟩) ?_
            clear hK k1 g1 R0
            refine stepL_at (by rfl) fun K Q' hK => ?_
            refine wp_append_mats [⟨opM 8, none, 0, none, 0⟩] (.tmp 79) (.tmp 81) rfl rfl rfl r1 rfl (one_cellsM [] NB) (fun e he => by rw [List.mem_singleton.1 he]; exact opM_in _ _ (by decide)) (by have := LRS.out; simp; omega) (Nat.le_refl _) HB.size ?_
            intro v2 u2 r2' k2 _
            have hm2 := r2'.mats (by have := LRS.out; simp; omega)
            obtain ⟨ya, da, rfl, hma⟩ := hm2
            replace HB := HB.trans k2
            refine hK _ _ (fun _ => ⟨⟨_, HB⟩, rfl⟩) ?_
            clear hK k2 r1 r2' NB
            refine stepL_at (by rfl) fun K Q' hK => ?_
            go_simp
            refine (GN.out u2 ya da _ hma (by simp) (Q5.out.below HB)).mono ?_
            rintro e u3 ⟨rfl, k3⟩
            replace HB := HB.trans (k3.mono HB.size)
            refine hK _ _ (fun _ => ⟨⟨_, HB⟩, rfl⟩) ?_
            clear hK k3 hma
            refine ptL_qs ⟨⟨_, HB⟩, rfl⟩ ?_
            change wpQuiet _ _ _ _ [_, _, _] _
            repeat (go_big_quiet_step (fail))
            refine wpQuiet_nil ?_
            refine stepL_at (by rfl) fun K Q' hK => ?_
            go_simp
            refine hK _ _ (fun _ => ⟨⟨_, HB⟩, rfl⟩) ?_
            clear hK
            refine stepL_at (by rfl) fun K Q' hK => ?_
            go_simp
            refine hK _ _ (fun _ => ⟨⟨_, HB⟩, rfl⟩) ?_
            clear hK
            refine ptL_nil ?_
            go_wp2
            go_meet
            exact ⟨rfl, rfl, HB⟩
        · skip
          refine stepL_at (by rfl) fun K Q' hK => ?_
          go_simp
          have NB : Bl 36 (World.alloc wc.drew (.cells #[.int .i64 8, .int .i64 0, .slice none 0 0, .slice none 0 0] 36)) wc.heap.size #[.int .i64 8, .int .i64 0, .slice none 0 0, .slice none 0 0] := (by have e := Bl.new 36 wc.drew #[.int .i64 8, .int .i64 0, .slice none 0 0, .slice none 0 0]; (first | exact e | simpa using e))
          replace HB := HB.alloc HB.size (.cells #[.int .i64 8, .int .i64 0, .slice none 0 0, .slice none 0 0] 36)
          refine hK _ _ (fun _ => ⟨⟨_, HB⟩, rfl⟩) ?_
          clear hK
          refine stepL_at (by rfl) fun K Q' hK => ?_
          go_simp
          have R0 : MRow wc wc.heap.size (World.alloc (World.alloc wc.drew (.cells #[.int .i64 8, .int .i64 0, .slice none 0 0, .slice none 0 0] 36)) (.cells #[] 36)) (.slice (some ⟨wc.heap.size + 1, 0, none⟩) 0 0) [] := (by have e : MRow wc wc.heap.size (World.alloc (World.alloc wc.drew (.cells #[.int .i64 8, .int .i64 0, .slice none 0 0, .slice none 0 0] 36)) (.cells #[] 36)) (.slice (some ⟨(World.alloc wc.drew (.cells #[.int .i64 8, .int .i64 0, .slice none 0 0, .slice none 0 0] 36)).heap.size, 0, none⟩) 0 0) [] := mrow_lit (wp := wc) (B := wc.heap.size) [] HB HB.size (fun e he => by simp at he) (by simp); (first | exact e | simpa using e))
          replace HB := HB.alloc HB.size (.cells #[] 36)
          replace NB := NB.below ((Below.refl _ _).alloc (Nat.le_refl _) (.cells #[] 36))
          refine hK _ _ (fun _ => ⟨⟨_, HB⟩, rfl⟩) ?_
          clear hK
          refine stepL_at (by rfl) fun K Q' hK => ?_
          refine wp_append_mats (v := .slice (some ⟨wc.heap.size + 1, 0, none⟩) 0 0) LS (.tmp 77) (.tmp 78) rfl rfl rfl R0 NS.out (CS.out _ HB) MS.out (by have := NS.out; have := LRS.out; simp; omega) (Nat.le_refl _) HB.size ?_
          intro v1 u1 r1 k1 g1
          rw [ZS.out, List.nil_append] at r1
          replace NB := blGrown NB g1 (by simp [Value.ownBlock])
          replace HB := HB.trans k1
          refine hK _ _ (fun _ => ⟨⟨_, HB⟩, rfl⟩) ?_
          clear hK k1 g1 R0
          refine stepL_at (by rfl) fun K Q' hK => ?_
          refine wp_append_mats [⟨opM 8, none, 0, none, 0⟩] (.tmp 79) (.tmp 81) rfl rfl rfl r1 rfl (one_cellsM [] NB) (fun e he => by rw [List.mem_singleton.1 he]; exact opM_in _ _ (by decide)) (by have := LRS.out; simp; omega) (Nat.le_refl _) HB.size ?_
          intro v2 u2 r2' k2 _
          have hm2 := r2'.mats (by have := LRS.out; simp; omega)
          obtain ⟨ya, da, rfl, hma⟩ := hm2
          replace HB := HB.trans k2
          refine hK _ _ (fun _ => ⟨⟨_, HB⟩, rfl⟩) ?_
          clear hK k2 r1 r2' NB
          refine stepL_at (by rfl) fun K Q' hK => ?_
          go_simp
          refine (GN.out u2 ya da _ hma (by simp) (Q5.out.below HB)).mono ?_
          rintro e u3 ⟨rfl, k3⟩
          replace HB := HB.trans (k3.mono HB.size)
          refine hK _ _ (fun _ => ⟨⟨_, HB⟩, rfl⟩) ?_
          clear hK k3 hma
          refine ptL_qs ⟨⟨_, HB⟩, rfl⟩ ?_
          change wpQuiet _ _ _ _ [_, _, _] _
          repeat (go_big_quiet_step (fail))
          refine wpQuiet_nil ?_
          refine stepL_at (by rfl) fun K Q' hK => ?_
          go_simp
          refine hK _ _ (fun _ => ⟨⟨_, HB⟩, rfl⟩) ?_
          clear hK
          refine stepL_at (by rfl) fun K Q' hK => ?_
          go_simp
          refine hK _ _ (fun _ => ⟨⟨_, HB⟩, rfl⟩) ?_
          clear hK
          refine ptL_nil ?_
          go_wp2
          go_meet
          exact ⟨rfl, rfl, HB⟩
      case rest =>
        obtain ⟨rfl, rfl, d⟩ := hcut
        replace W5 := hid (grown_on W5.out d)
        clear d x0 x1 x2 x3 x4 x5 NS CS MS ZS
        cases p <;> cases p2 <;>
        · go_wp2_with fail
          go_ret
          exact ⟨rfl, W5.out⟩

end Go.Proofs.Ytdkpdlkcloaoeaa.Ru
