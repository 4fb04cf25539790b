/-
  What package chain's own functions answer.
-/
import Derived.Test.YtnbabdfcamdapaaChDef
import Derived.Test.YtnbabdfcamdapaaRlConA
namespace Go.Proofs.Ytnbabdfcamdapaa.Ru
open Go.RowKit Go.Deep

/-- Whether a rule holds, where it is right. -/
theorem rholds_row {x y z : Option Addr} {c l s t : Nat} (ms : List Mt) (q : Qy) (v : Bool) (w : World) (h : Mats w x c ms) (hl : ms.length = l) (hq : QyIs w q y s z t) (hE : ruleE ms = 0) (hv : holdN q ms = v) :
    Calls Try.prog 7 #[.slice x l c, .agg #[.slice y q.N.length s, .int .i64 q.ty, .int .i64 q.cl, .int .i64 q.opc, .bool q.rd, .slice z q.F.length t]] w fun e w' => e = .returned (.tuple #[.bool v, .nilIface]) ∧ Below w.heap.size w w' := by
  obtain ⟨tr, hf, hw⟩ := ruleE_tree hE
  exact rholds_good ms tr q v w h hl hq hE hf hw (by rw [← holdN_of hw, hf]; exact hv)

theorem two_cells {w0 w : World} {b : Nat} (h : Below w0.heap.size w0 w) (hb : w0.heap.size ≤ b) (v0 v1 : Value) : Below w0.heap.size w0 ((w.setCell ⟨b, 0, none⟩ v0).setCell ⟨b, 1, none⟩ v1) := (h.setCell hb v0).setCell hb v1

set_option maxHeartbeats 2000000 in
set_option maxRecDepth 100000 in
theorem ccheck_any {x : Option Addr} {c l : Nat} (a k : Int) (v : Value) (rs : List Ra) (w : World) (h : Ras w x c rs) (hl : rs.length = l) (hk : chainE rs = (a, k)) (hv : errV k = v) :
    Calls Try.prog 9 #[.slice x l c] w fun e w' => e = .returned (.tuple #[.int .i64 a, v]) ∧ Below w.heap.size w w' := by
  subst hl
  have hlen : rs.length ≤ 5000000000000 := h.2.1
  have HH := hid h
  have HK := hid hk
  have HV := hid hv
  clear h hk hv
  by_cases c1 : 50 < rs.length
  · have HE : Hid (((0 : Int), (7 : Int)) = (a, k)) := hid (by rw [← HK.out]; unfold chainE; rw [if_pos c1])
    have c1' : (50 : Int) < (rs.length : Int) := by omega
    go_enter Try.func9, Try.ntmps9
    go_wp2_with fail
    refine bodyPost_ret (results_tmp2 rfl _ _ _) rfl ?_
    have := HE.out
    simp only [Prod.mk.injEq] at this
    obtain ⟨rfl, rfl⟩ := this
    exact ⟨by rw [← HV.out]; rfl, Below.refl _ _⟩
  have c1' : ¬ (50 : Int) < (rs.length : Int) := by omega
  have HE : Hid (Ch.wrong (faults rs) = (a, k)) := hid (by rw [← HK.out]; unfold chainE; rw [if_neg c1])
  clear HK
  go_enter Try.func9, Try.ntmps9
  go_wp2_with fail
  go_loopw [13] (fun vi wr => ∃ i : Nat, i ≤ rs.length ∧ vi = .int .i64 (i : Int) ∧ (∀ j, j < i → (faults rs)[j]? = some 0) ∧ Below w.heap.size w wr) (fun vi _ => rs.length - (intOf vi).toNat)
  case atStart => exact ⟨0, Nat.zero_le _, rfl, fun j hj => by omega, Below.refl _ _⟩
  case round =>
    obtain ⟨i, hi, rfl, hf, hb⟩ := hrel
    have FF := hid hf
    have BB := hid hb
    clear hf hb
    by_cases ci : i < rs.length
    · have ci' : (i : Int) < (rs.length : Int) := by omega
      obtain ⟨b, off, rfl, hbl, y, s, k0, k1, hM⟩ := (HH.out.below BB.out).here ci
      obtain ⟨e, he⟩ : ∃ e, ruleE rs[i].ms = e := ⟨_, rfl⟩
      have GE : Hid ((faults rs)[i]? = some e) := hid (by unfold faults; rw [List.getElem?_map, List.getElem?_eq_getElem ci]; simp only [Option.map_some, he])
      generalize rs[i].ms = ms at *
      generalize rs[i].act = act at *
      have b1 := boxed 25 wr #[.slice y ms.length s, .int .i64 act]
      have B1 := Bl.new 25 wr #[.slice y ms.length s, .int .i64 act]
      obtain ⟨W1, hW⟩ : ∃ W1, wr.alloc (.cells #[.slice y ms.length s, .int .i64 act] 25) = W1 := ⟨_, rfl⟩
      rw [hW] at b1 B1
      have HW := hid hW
      have C0 : W1.cell? ⟨wr.heap.size, 0, none⟩ = some (.slice y ms.length s) := B1.cell (i := 0) rfl
      have B2 := hid (grown_on BB.out b1)
      have HM := hM.below b1
      clear hW b1 B1 hM
      by_cases h0 : e = 0
      · subst h0
        have C2 := hid (rcheck_any ms .nilIface W1 HM rfl (by rw [he]; rfl))
        clear HM he
        go_upto_region 6 with fail
        rw [HW.out]
        clear HW k0 k1
        go_wp2_with fail
        refine C2.out.mono ?_
        rintro e w1 ⟨rfl, q⟩
        have B3 := hid (grown_on B2.out q)
        clear q C0 C2
        go_wp2_with fail
        refine ⟨⟨i + 1, by omega, by go_num, fun j hj => ?_, B3.out⟩, by simp [intOf]; omega⟩
        by_cases hj' : j = i
        · subst hj'; exact GE.out
        · exact FF.out j (by omega)
      · have F5 : Hid (((i : Int), e) = (a, k)) := hid (by rw [← HE.out, Ch.wrong_get FF.out GE.out h0])
        have C2 := hid (rcheck_any ms (.iface 52 (.int .i64 e)) W1 HM rfl (by rw [he]; exact errV_some h0))
        have EV := hid (errV_some h0)
        clear HM he h0
        go_upto_region 6 with fail
        rw [HW.out]
        clear HW k0 k1
        go_wp2_with fail
        refine C2.out.mono ?_
        rintro e w1 ⟨rfl, q⟩
        have B3 := hid (grown_on B2.out q)
        clear q C0 C2
        go_wp2_with fail
        refine bodyPost_ret (results_tmp2 rfl _ _ _) rfl ?_
        have := F5.out
        simp only [Prod.mk.injEq] at this
        obtain ⟨rfl, rfl⟩ := this
        exact ⟨by rw [← HV.out, EV.out]; rfl, B3.out⟩
    · have ci' : ¬ (i : Int) < (rs.length : Int) := by omega
      have F5 : Hid (((0 : Int), (0 : Int)) = (a, k)) := hid (by
        rw [← HE.out, Ch.wrong_zero]
        refine (Ch.wrong_none _).2 fun e he => ?_
        obtain ⟨j, hj⟩ := List.mem_iff_getElem?.1 he
        have hjl : j < (faults rs).length := (List.getElem?_eq_some_iff.1 hj).1
        have hjl' : j < rs.length := by unfold faults at hjl; rwa [List.length_map] at hjl
        have := FF.out j (by omega)
        rw [this] at hj
        exact (Option.some.inj hj).symm)
      go_wp2_with fail
      refine bodyPost_ret (results_tmp2 rfl _ _ _) rfl ?_
      have := F5.out
      simp only [Prod.mk.injEq] at this
      obtain ⟨rfl, rfl⟩ := this
      exact ⟨by rw [← HV.out]; rfl, BB.out⟩

/-- The closure that First hands on: whether a rule holds of the query that it captured. -/
theorem clo_any {x y z : Option Addr} {c s t b : Nat} (ms : List Mt) (act : Int) (q : Qy) (v : Bool) (w : World) (h : Mats w x c ms) (hq : QyIs w q y s z t) (hE : ruleE ms = 0) (hv : holdN q ms = v)
    (hb : Bl 29 w b #[.slice y q.N.length s, .int .i64 q.ty, .int .i64 q.cl, .int .i64 q.opc, .bool q.rd, .slice z q.F.length t]) :
    Calls Try.prog 11 #[.agg #[.slice x ms.length c, .int .i64 act], .pointer (some ⟨b, 0, none⟩)] w fun e w' => e = .returned (.bool v) ∧ Below w.heap.size w w' := by
  have b1 := boxed 25 w #[.slice x ms.length c, .int .i64 act]
  have B1 := Bl.new 25 w #[.slice x ms.length c, .int .i64 act]
  obtain ⟨W1, hW⟩ : ∃ W1, w.alloc (.cells #[.slice x ms.length c, .int .i64 act] 25) = W1 := ⟨_, rfl⟩
  rw [hW] at b1 B1
  have HW := hid hW
  have C0 : W1.cell? ⟨w.heap.size, 0, none⟩ = some (.slice x ms.length c) := B1.cell (i := 0) rfl
  have C2 := hid (rholds_row ms q v W1 (h.below b1) rfl (hq.below b1) hE hv)
  obtain ⟨q0, q1, q2, q3, q4, q5⟩ := bl6 (hb.below b1)
  have BB := hid b1
  clear h hq hE hv hb b1 B1 hW
  go_enter Try.func11, Try.ntmps11
  go_upto_region 1 with fail
  rw [HW.out]
  clear HW
  go_wp2_with fail
  refine C2.out.mono ?_
  rintro e w1 ⟨rfl, k⟩
  have B3 := hid (grown_on BB.out k)
  clear k C2
  go_wp2_with fail
  go_ret
  exact ⟨rfl, B3.out⟩

set_option maxHeartbeats 2000000 in
set_option maxRecDepth 100000 in
theorem cidx_any {x y z : Option Addr} {c l s t b : Nat} (v : Int) (rs : List Ra) (q : Qy) (w : World) (h : Ras w x c rs) (hl : rs.length = l) (hq : QyIs w q y s z t) (hE : ∀ r ∈ rs, ruleE r.ms = 0) (hv : Ch.first (holds q rs) = v)
    (hb : Bl 29 w b #[.slice y q.N.length s, .int .i64 q.ty, .int .i64 q.cl, .int .i64 q.opc, .bool q.rd, .slice z q.F.length t]) :
    Calls Try.prog 10 #[.slice x l c, .func (.func 11) #[] #[.pointer (some ⟨b, 0, none⟩)]] w fun e w' => e = .returned (.int .i64 v) ∧ Below w.heap.size w w' := by
  subst hl
  have hlen : rs.length ≤ 5000000000000 := h.2.1
  have HH := hid h
  have QQ := hid hq
  have HV := hid hv
  have EE := hid hE
  have KQ := hid hb
  clear h hq hv hE hb
  go_enter Try.func10, Try.ntmps10
  go_wp2_with fail
  go_loopw [8] (fun vi wr => ∃ i : Nat, i ≤ rs.length ∧ vi = .int .i64 (i : Int) ∧ (∀ j, j < i → (holds q rs)[j]? = some false) ∧ Below w.heap.size w wr) (fun vi _ => rs.length - (intOf vi).toNat)
  case atStart => exact ⟨0, Nat.zero_le _, rfl, fun j hj => by omega, Below.refl _ _⟩
  case round =>
    obtain ⟨i, hi, rfl, hf, hb⟩ := hrel
    have FF := hid hf
    have BB := hid hb
    clear hf hb
    by_cases ci : i < rs.length
    · have ci' : (i : Int) < (rs.length : Int) := by omega
      obtain ⟨b1, off, rfl, hbl, y', s', k0, k1, hM⟩ := (HH.out.below BB.out).here ci
      have hE0 := EE.out _ (List.getElem_mem ci)
      obtain ⟨o, ho⟩ : ∃ o, holdN q rs[i].ms = o := ⟨_, rfl⟩
      have GE : Hid ((holds q rs)[i]? = some o) := hid (by unfold holds; rw [List.getElem?_map, List.getElem?_eq_getElem ci]; simp only [Option.map_some, ho])
      have C2 := hid (clo_any rs[i].ms rs[i].act q o wr hM (QQ.out.below BB.out) hE0 ho (KQ.out.below BB.out))
      clear hM ho hE0
      generalize rs[i].ms = ms at *
      generalize rs[i].act = act at *
      cases o
      · go_wp2_with (go_at_call 11; refine C2.out.mono ?_; rintro e w1 ⟨rfl, k⟩; have B1 := hid (grown_on BB.out k); clear k)
        refine ⟨⟨i + 1, by omega, by go_num, fun j hj => ?_, B1.out⟩, by simp [intOf]; omega⟩
        by_cases hj' : j = i
        · subst hj'; exact GE.out
        · exact FF.out j (by omega)
      · have F5 : Hid (v = (i : Int)) := hid (by rw [← HV.out]; exact (Ch.first_is _ _).2 ⟨GE.out, FF.out⟩)
        go_wp2_with (go_at_call 11; refine C2.out.mono ?_; rintro e w1 ⟨rfl, k⟩; have B1 := hid (grown_on BB.out k); clear k)
        go_ret
        exact ⟨by rw [F5.out]; rfl, B1.out⟩
    · have ci' : ¬ (i : Int) < (rs.length : Int) := by omega
      have F5 : Hid (v = -1) := hid (by
        rw [← HV.out]
        refine Ch.first_neg ((Ch.first_none _).2 fun o he => ?_)
        obtain ⟨j, hj⟩ := List.mem_iff_getElem?.1 he
        have hjl : j < (holds q rs).length := (List.getElem?_eq_some_iff.1 hj).1
        have hjl' : j < rs.length := by unfold holds at hjl; rwa [List.length_map] at hjl
        have := FF.out j (by omega)
        rw [this] at hj
        exact (Option.some.inj hj).symm)
      go_wp2_with fail
      go_ret
      exact ⟨by rw [F5.out]; rfl, BB.out⟩

set_option maxHeartbeats 2000000 in
set_option maxRecDepth 100000 in
theorem cfirst_any {x y z : Option Addr} {c l s t : Nat} (i k : Int) (v : Value) (rs : List Ra) (q : Qy) (w : World) (h : Ras w x c rs) (hl : rs.length = l) (hq : QyIs w q y s z t) (hk : (chainE rs).2 = k) (hi : chainR q rs = i) (hv : errV k = v) :
    Calls Try.prog 6 #[.slice x l c, .agg #[.slice y q.N.length s, .int .i64 q.ty, .int .i64 q.cl, .int .i64 q.opc, .bool q.rd, .slice z q.F.length t]] w fun e w' => e = .returned (.tuple #[.int .i64 i, v]) ∧ Below w.heap.size w w' := by
  have b1 := boxed 29 w #[.slice y q.N.length s, .int .i64 q.ty, .int .i64 q.cl, .int .i64 q.opc, .bool q.rd, .slice z q.F.length t]
  have B1 := Bl.new 29 w #[.slice y q.N.length s, .int .i64 q.ty, .int .i64 q.cl, .int .i64 q.opc, .bool q.rd, .slice z q.F.length t]
  obtain ⟨W1, hW⟩ : ∃ W1, w.alloc (.cells #[.slice y q.N.length s, .int .i64 q.ty, .int .i64 q.cl, .int .i64 q.opc, .bool q.rd, .slice z q.F.length t] 29) = W1 := ⟨_, rfl⟩
  rw [hW] at b1 B1
  have HW := hid hW
  obtain ⟨a, hck⟩ : ∃ a, chainE rs = (a, k) := ⟨(chainE rs).1, by rw [← hk]⟩
  have CC := hid (ccheck_any a k v rs W1 (h.below b1) hl hck hv)
  have BB := hid b1
  have HH := hid (h.below b1)
  have QQ := hid (hq.below b1)
  have KQ := hid B1
  clear b1 B1 hW h hq hck
  by_cases h0 : k = 0
  · subst h0
    obtain rfl : v = .nilIface := hv.symm
    have EE := hid (chainE_zero.1 hk).2
    have FI := hid ((chainR_first hk).symm.trans hi)
    clear hk hi hv
    go_enter Try.func6, Try.ntmps6
    go_upto_region 1 with fail
    rw [HW.out]
    clear HW
    go_wp2_with fail
    refine CC.out.mono ?_
    rintro e w1 ⟨rfl, k⟩
    replace HH := hid (HH.out.below k)
    replace QQ := hid (QQ.out.below k)
    replace KQ := hid (KQ.out.below k)
    replace BB := hid (grown_on BB.out k)
    clear k CC
    go_wp2_with fail
    refine (cidx_any i rs q w1 HH.out hl QQ.out EE.out FI.out KQ.out).mono ?_
    rintro e w2 ⟨rfl, k⟩
    replace BB := hid (grown_on BB.out k)
    clear k
    go_wp2_with fail
    refine bodyPost_ret (results_tmp2 rfl _ _ _) rfl ?_
    exact ⟨rfl, BB.out⟩
  · obtain rfl : i = 0 := by rw [← hi]; unfold chainR; rw [if_neg (by rw [hk]; exact h0)]
    obtain rfl : v = .iface 52 (.int .i64 k) := by rw [← hv]; exact errV_some h0
    clear hk hi hv h0
    go_enter Try.func6, Try.ntmps6
    go_upto_region 1 with fail
    rw [HW.out]
    clear HW
    go_wp2_with fail
    refine CC.out.mono ?_
    rintro e w1 ⟨rfl, k⟩
    replace BB := hid (grown_on BB.out k)
    clear k CC
    go_wp2_with fail
    refine bodyPost_ret (results_tmp2 rfl _ _ _) rfl ?_
    exact ⟨rfl, BB.out⟩

set_option maxHeartbeats 2000000 in
set_option maxRecDepth 100000 in
theorem cdo_any {x y z : Option Addr} {c l s t : Nat} (other d k : Int) (v : Value) (rs : List Ra) (q : Qy) (w : World) (h : Ras w x c rs) (hl : rs.length = l) (hq : QyIs w q y s z t) (hk : (chainE rs).2 = k) (hd : chainD q other rs = d) (hv : errV k = v) :
    Calls Try.prog 8 #[.slice x l c, .agg #[.slice y q.N.length s, .int .i64 q.ty, .int .i64 q.cl, .int .i64 q.opc, .bool q.rd, .slice z q.F.length t], .int .i64 other] w fun e w' => e = .returned (.tuple #[.int .i64 d, v]) ∧ Below w.heap.size w w' := by
  have b1 := boxed 29 w #[.slice y q.N.length s, .int .i64 q.ty, .int .i64 q.cl, .int .i64 q.opc, .bool q.rd, .slice z q.F.length t]
  have B1 := Bl.new 29 w #[.slice y q.N.length s, .int .i64 q.ty, .int .i64 q.cl, .int .i64 q.opc, .bool q.rd, .slice z q.F.length t]
  obtain ⟨W1, hW⟩ : ∃ W1, w.alloc (.cells #[.slice y q.N.length s, .int .i64 q.ty, .int .i64 q.cl, .int .i64 q.opc, .bool q.rd, .slice z q.F.length t] 29) = W1 := ⟨_, rfl⟩
  rw [hW] at b1 B1
  have HW := hid hW
  obtain ⟨i, hi⟩ : ∃ i, chainR q rs = i := ⟨_, rfl⟩
  have CC := hid (cfirst_any i k v rs q W1 (h.below b1) hl (hq.below b1) hk hi hv)
  have BB := hid b1
  have HH := hid (h.below b1)
  have hlen : rs.length ≤ 5000000000000 := h.2.1
  obtain ⟨q0, q1, q2, q3, q4, q5⟩ := bl6 B1
  clear b1 B1 hW h hq
  by_cases h0 : k = 0
  · subst h0
    obtain rfl : v = .nilIface := hv.symm
    have FI := hid ((chainR_first hk).symm.trans hi)
    have FD := hid ((chainD_act hk).symm.trans hd)
    clear hk hi hv hd
    by_cases hi0 : 0 ≤ i
    · obtain ⟨j, rfl⟩ : ∃ j : Nat, i = (j : Int) := ⟨i.toNat, by omega⟩
      obtain ⟨hj, hact⟩ := acts_get FI.out FD.out
      have hj2 : (j : Int) < (l : Int) := by omega
      have hj3 : ¬ (j : Int) < 0 := by omega
      go_enter Try.func8, Try.ntmps8
      go_upto_region 1 with fail
      rw [HW.out]
      clear HW
      go_wp2_with fail
      refine CC.out.mono ?_
      rintro e w1 ⟨rfl, k⟩
      replace HH := hid (HH.out.below k)
      replace BB := hid (grown_on BB.out k)
      clear k CC
      obtain ⟨b, off, rfl, hbl, y2, s2, k0, k1, hM⟩ := HH.out.here hj
      rw [hact] at k1
      clear k0 hM hact hj
      go_wp2_with fail
      refine bodyPost_ret (results_tmp2 rfl _ _ _) rfl ?_
      exact ⟨rfl, BB.out⟩
    · have HD2 : Hid (other = d) := hid (by rw [← FD.out]; exact (acts_none (by rw [FI.out]; omega)).symm)
      have hi1 : i < 0 := by omega
      go_enter Try.func8, Try.ntmps8
      go_upto_region 1 with fail
      rw [HW.out]
      clear HW
      go_wp2_with fail
      refine CC.out.mono ?_
      rintro e w1 ⟨rfl, k⟩
      replace BB := hid (grown_on BB.out k)
      clear k CC
      go_wp2_with fail
      refine bodyPost_ret (results_tmp2 rfl _ _ _) rfl ?_
      exact ⟨by rw [HD2.out]; rfl, BB.out⟩
  · obtain rfl : d = 0 := by rw [← hd]; unfold chainD; rw [if_neg (by rw [hk]; exact h0)]
    obtain rfl : v = .iface 52 (.int .i64 k) := by rw [← hv]; exact errV_some h0
    clear hk hi hv h0 hd
    go_enter Try.func8, Try.ntmps8
    go_upto_region 1 with fail
    rw [HW.out]
    clear HW
    go_wp2_with fail
    refine CC.out.mono ?_
    rintro e w1 ⟨rfl, k⟩
    replace BB := hid (grown_on BB.out k)
    clear k CC
    go_wp2_with fail
    refine bodyPost_ret (results_tmp2 rfl _ _ _) rfl ?_
    exact ⟨rfl, BB.out⟩

end Go.Proofs.Ytnbabdfcamdapaa.Ru
