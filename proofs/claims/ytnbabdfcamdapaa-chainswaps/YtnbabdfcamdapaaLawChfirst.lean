/-
  The walk of the law ChainFirst.
-/
import Derived.Test.YtnbabdfcamdapaaChRow
import Derived.Test.YtnbabdfcamdapaaChAsk
import Derived.Test.YtnbabdfcamdapaaForkT
import Derived.Deep.Cut
import Derived.Deep.CutRange
namespace Go.Proofs.Ytnbabdfcamdapaa.Ru
open Go.RowKit Go.Deep

theorem chain_append {q : Qy} {rs m : List Ra} {i : Int} (h : (chainE rs).2 = 0) (hm : (chainE (rs ++ m)).2 = 0) (hi : chainR q rs = i) (h0 : 0 ≤ i) : chainR q (rs ++ m) = i := by
  rw [chainR_first hm, holds, List.map_append, ← holds, ← holds]
  rw [chainR_first h] at hi
  rw [Ch.first_more _ (by rw [hi]; exact h0), hi]

theorem chain_ahead {q : Qy} {rs : List Ra} {r : Ra} {i : Int} {o : Bool} (h : (chainE rs).2 = 0) (hi : chainR q rs = i) (hr : ruleE r.ms = 0) (ho : holdN q r.ms = o) (hl : rs.length < 50) : (chainE (r :: rs)).2 = 0 ∧ chainR q (r :: rs) = if o then 0 else if i < 0 then -1 else i + 1 := by
  have h2 : (chainE (r :: rs)).2 = 0 := chainE_zero.2 ⟨by rw [List.length_cons]; omega, fun x hx => by
    rcases List.mem_cons.1 hx with rfl | hx
    · exact hr
    · exact (chainE_zero.1 h).2 x hx⟩
  refine ⟨h2, ?_⟩
  rw [chainR_first h2, holds, List.map_cons, ← holds, ho]
  rw [chainR_first h] at hi
  cases o
  · rw [Ch.first_cons_false, hi]; rfl
  · rfl

theorem holds_at {q : Qy} {rs : List Ra} {i : Int} {j : Nat} {o : Bool} (h : Ch.first (holds q rs) = i) (hj : (holds q rs)[j]? = some o) : (o = true → 0 ≤ i ∧ i ≤ (j : Int)) ∧ (o = false → (j : Int) ≠ i) := by
  constructor
  · rintro rfl
    have h1 : ¬ i < 0 := fun k => by
      have := (Ch.first_none _).1 (by rw [h]; exact k) true (List.mem_of_getElem? hj)
      cases this
    obtain ⟨n, rfl⟩ : ∃ n : Nat, i = (n : Int) := ⟨i.toNat, by omega⟩
    have h2 := ((Ch.first_is _ _).1 h).2
    refine ⟨by omega, ?_⟩
    rcases Nat.lt_or_ge j n with q | q
    · rw [h2 j q] at hj; cases hj
    · omega
  · rintro rfl rfl
    have := ((Ch.first_is _ _).1 h).1
    rw [hj] at this
    cases this

/-- Whether a rule holds, right or wrong. -/
theorem rholds_either {x y z : Option Addr} {c l s t : Nat} (ms : List Mt) (q : Qy) (o : Bool) (v : Value) (w : World) (h : Mats w x c ms) (hl : ms.length = l) (hq : QyIs w q y s z t) (ho : (if ruleE ms = 0 then holdN q ms else false) = o) (hv : errV (ruleE ms) = v) :
    Calls Try.prog 7 #[.slice x l c, .agg #[.slice y q.N.length s, .int .i64 q.ty, .int .i64 q.cl, .int .i64 q.opc, .bool q.rd, .slice z q.F.length t]] w fun e w' => e = .returned (.tuple #[.bool o, v]) ∧ Below w.heap.size w w' := by
  by_cases hE : ruleE ms = 0
  · rw [if_pos hE] at ho
    rw [hE] at hv
    obtain rfl := (show Value.nilIface = _ from hv)
    exact rholds_row ms q o w h hl hq hE ho
  · rw [if_neg hE] at ho
    subst ho
    exact rholds_bad ms q v w h hl hq hE hv

/-- Worlds in which all old blocks stay. -/
structure Okc (w : World) where
  val : World
  keeps : Below w.heap.size w val

set_option maxHeartbeats 1000000 in
set_option maxRecDepth 100000 in
theorem chfirst_walk {x x2 x3 y z : Option Addr} {c c2 c3 l l2 s t : Nat} (rs more : List Ra) (ms : List Mt) (act : Int) (q : Qy) (w : World) (h : Ras w x c rs) (hl : rs.length = l) (h2 : Ras w x2 c2 more) (hl2 : more.length = l2) (hb2 : more.length * 32 ≤ 140737488351232) (h3 : Mats w x3 c3 ms) (hact : -9223372036854775808 ≤ act ∧ act ≤ 9223372036854775807) (hq : QyIs w q y s z t) :
    Calls Try.prog 3 #[.slice x l c, .slice x2 l2 c2, .agg #[.slice x3 ms.length c3, .int .i64 act], .agg #[.slice y q.N.length s, .int .i64 q.ty, .int .i64 q.cl, .int .i64 q.opc, .bool q.rd, .slice z q.F.length t]] w fun e w' => e = .returned (.bool true) ∧ Below w.heap.size w w' := by
  obtain ⟨KR, KQ, B0⟩ := rlTwo 25 29 w #[.slice x3 ms.length c3, .int .i64 act] #[.slice y q.N.length s, .int .i64 q.ty, .int .i64 q.cl, .int .i64 q.opc, .bool q.rd, .slice z q.F.length t]
  obtain ⟨w0, hw0⟩ : ∃ w0, (w.alloc (.cells #[.slice x3 ms.length c3, .int .i64 act] 25)).alloc (.cells #[.slice y q.N.length s, .int .i64 q.ty, .int .i64 q.cl, .int .i64 q.opc, .bool q.rd, .slice z q.F.length t] 29) = w0 := ⟨_, rfl⟩
  rw [hw0] at KR KQ B0
  replace KR := hid KR
  replace KQ := hid KQ
  have H1 := hid (h.below B0)
  have H2 := hid (h2.below B0)
  have H3 := hid (h3.below B0)
  have QQ := hid (hq.below B0)
  have WW := hid B0
  have HA := hid hact
  have HW := hid hw0
  have hlen : rs.length ≤ 5000000000000 := h.2.1
  clear B0 h h2 h3 hq hw0 hact
  obtain ⟨k, hk⟩ : ∃ k, (chainE rs).2 = k := ⟨_, rfl⟩
  obtain ⟨i, hi⟩ : ∃ i, chainR q rs = i := ⟨_, rfl⟩
  have HI := hid hi
  clear hi
  go_enter Try.func3, Try.ntmps3
  go_upto_region 1 with fail
  rw [HW.out]
  clear HW
  go_wp2_with fail
  refine (chained_any w0).mono ?_
  rintro e w1 ⟨rfl, b⟩
  replace KR := hid (KR.out.below b)
  replace KQ := hid (KQ.out.below b)
  replace H1 := hid (H1.out.below b)
  replace H2 := hid (H2.out.below b)
  replace H3 := hid (H3.out.below b)
  replace QQ := hid (QQ.out.below b)
  replace WW := hid (grown_on WW.out b)
  clear b
  obtain ⟨c0, c1, k2, d3, c4, c5⟩ := bl6 KQ.out
  by_cases h0 : k = 0
  rotate_left
  · have EV : Hid (errV k = .iface 52 (.int .i64 k)) := hid (errV_some h0)
    have HK := hid hk
    clear h0 hk
    go_wp2_with fail
    refine (cfirst_any i k _ rs q w1 H1.out hl QQ.out HK.out HI.out EV.out).mono ?_
    rintro e w2 ⟨rfl, b⟩
    replace WW := hid (grown_on WW.out b)
    clear b
    go_wp2_with fail
    go_ret
    exact ⟨rfl, WW.out⟩
  subst h0
  have HK := hid hk
  have EE := hid (chainE_zero.1 hk).2
  have hl50 : rs.length ≤ 50 := (chainE_zero.1 hk).1
  have FI := hid ((chainR_first hk).symm.trans HI.out)
  clear hk
  go_wp2_with fail
  refine (cfirst_any i 0 .nilIface rs q w1 H1.out hl QQ.out HK.out HI.out rfl).mono ?_
  rintro e w2 ⟨rfl, b⟩
  replace KR := hid (KR.out.below b)
  replace KQ := hid (KQ.out.below b)
  replace H1 := hid (H1.out.below b)
  replace H2 := hid (H2.out.below b)
  replace H3 := hid (H3.out.below b)
  replace QQ := hid (QQ.out.below b)
  replace WW := hid (grown_on WW.out b)
  clear b c0 c1 k2 d3 c4 c5
  go_wp2_with fail
  go_loopw [12] (fun vi wr => ∃ j : Nat, j ≤ rs.length ∧ vi = .int .i64 (j : Int) ∧ Below w2.heap.size w2 wr) (fun vi _ => rs.length - (intOf vi).toNat)
  case atStart => exact ⟨0, Nat.zero_le _, rfl, Below.refl _ _⟩
  case round =>
    obtain ⟨j, hj, rfl, hb⟩ := hrel
    have BB := hid hb
    have KQr := hid (KQ.out.below hb)
    clear hb
    by_cases cj : j < rs.length
    · have cj' : (j : Int) < (l : Int) := by omega
      obtain ⟨b, off, rfl, hbl, y', s', k0, k1, hM⟩ := (H1.out.below BB.out).here cj
      have hE0 := EE.out _ (List.getElem_mem cj)
      obtain ⟨o, ho⟩ : ∃ o, holdN q rs[j].ms = o := ⟨_, rfl⟩
      have GE : (holds q rs)[j]? = some o := by unfold holds; rw [List.getElem?_map, List.getElem?_eq_getElem cj]; simp only [Option.map_some, ho]
      have HO := holds_at FI.out GE
      have C2 := hid (fun (u : World) (hu : Below wr.heap.size wr u) => rholds_row rs[j].ms q o u (hM.below hu) rfl ((QQ.out.below BB.out).below hu) hE0 ho)
      clear hM k1 ho hE0 GE
      generalize rs[j].ms = mj at *
      obtain ⟨x0, x1, q2, q3, q4, q5⟩ := bl6 KQr.out
      go_upto_region 10 with fail
      have l0 : ∀ s' : Okc wr, s'.val.cell? ⟨w.heap.size + 1, 0, none⟩ = some (.slice y q.N.length s) := fun s' => (s'.keeps.cell (p := ⟨w.heap.size + 1, 0, none⟩) KQr.out.lt).trans x0
      have l1 : ∀ s' : Okc wr, s'.val.cell? ⟨w.heap.size + 1, 1, none⟩ = some (.int .i64 q.ty) := fun s' => (s'.keeps.cell (p := ⟨w.heap.size + 1, 1, none⟩) KQr.out.lt).trans x1
      have l2' : ∀ s' : Okc wr, s'.val.cell? ⟨w.heap.size + 1, 2, none⟩ = some (.int .i64 q.cl) := fun s' => (s'.keeps.cell (p := ⟨w.heap.size + 1, 2, none⟩) KQr.out.lt).trans q2
      have l3 : ∀ s' : Okc wr, s'.val.cell? ⟨w.heap.size + 1, 3, none⟩ = some (.int .i64 q.opc) := fun s' => (s'.keeps.cell (p := ⟨w.heap.size + 1, 3, none⟩) KQr.out.lt).trans q3
      have l4 : ∀ s' : Okc wr, s'.val.cell? ⟨w.heap.size + 1, 4, none⟩ = some (.bool q.rd) := fun s' => (s'.keeps.cell (p := ⟨w.heap.size + 1, 4, none⟩) KQr.out.lt).trans q4
      have l5 : ∀ s' : Okc wr, s'.val.cell? ⟨w.heap.size + 1, 5, none⟩ = some (.slice z q.F.length t) := fun s' => (s'.keeps.cell (p := ⟨w.heap.size + 1, 5, none⟩) KQr.out.lt).trans q5
      have l6 : ∀ s'' : Okc wr, s''.val.cell? ⟨b, off + j * 2, none⟩ = some (.slice y' mj.length s') := fun s'' => (s''.keeps.cell (p := ⟨b, off + j * 2, none⟩) hbl).trans k0
      have hNe : Nonempty (Okc wr) := ⟨⟨wr, Below.refl _ _⟩⟩
      clear x0 x1 q2 q3 q4 q5 k0
      refine wp_region_pt (.qs [0, 1, 2, 3, 4, 5] (.one 6 (.qs [7, 8, 9] (.one 10 (.one 11 .nil))))) (fun u => ∃ s' : Okc wr, u = s'.val) (by kernel_rfl) (by kernel_rfl) ?_
      refine ptL_qs ⟨⟨wr.drew, (Below.refl _ _).drew⟩, rfl⟩ ?_
      change wpQuiet _ _ _ _ [_, _, _, _, _, _] _
      repeat (go_big_quiet_step (fail))
      refine wpQuiet_nil ?_
      have HB := (Below.refl wr.heap.size wr).drew
      refine stepL_at (by rfl) fun K Q' hK => ?_
      go_simp
      refine (C2.out _ HB).mono ?_
      rintro e u1 ⟨rfl, d⟩
      replace HB := HB.trans (d.mono HB.size)
      refine hK _ _ (fun _ => ⟨⟨_, HB⟩, rfl⟩) ?_
      clear hK d
      refine ptL_qs ⟨⟨_, HB⟩, rfl⟩ ?_
      change wpQuiet _ _ _ _ [_, _, _] _
      repeat (go_big_quiet_step (fail))
      refine wpQuiet_nil ?_
      refine stepL_at (by rfl) fun K Q' hK => ?_
      go_simp
      refine hK _ _ (fun _ => ⟨⟨_, HB⟩, rfl⟩) ?_
      clear hK
      refine stepL_at (by rfl) fun K Q' hK => ?_
      go_simp
      refine hK _ _ (fun _ => ⟨⟨_, HB⟩, rfl⟩) ?_
      clear hK
      refine ptL_nil ?_
      have B1 := hid (BB.out.trans (HB.mono BB.out.size))
      clear HB l0 l1 l2' l3 l4 l5 l6 hNe C2
      cases o
      · have g1 : ((j : Int) == i) = false := by simp; exact HO.2 rfl
        clear HO
        go_wp2_with fail
        exact ⟨⟨j + 1, by omega, by go_num, B1.out⟩, by simp [intOf]; omega⟩
      · obtain ⟨p1, p2⟩ := HO.1 rfl
        have g0 : ¬ i < 0 := by omega
        have g1 : ¬ (j : Int) < i := by omega
        clear HO
        go_wp2_with fail
        all_goals exact ⟨⟨j + 1, by omega, by go_num, B1.out⟩, by simp [intOf]; omega⟩
    · have cj' : ¬ (j : Int) < (l : Int) := by omega
      have b1 := BB.out
      replace KR := hid (KR.out.below b1)
      replace KQ := hid (KQ.out.below b1)
      replace H1 := hid (H1.out.below b1)
      replace H2 := hid (H2.out.below b1)
      replace H3 := hid (H3.out.below b1)
      replace QQ := hid (QQ.out.below b1)
      replace WW := hid (grown_on WW.out b1)
      clear b1 BB KQr hj
      obtain ⟨M1, hM1, hI1, hA1⟩ := ras_re H1.out
      obtain ⟨M2, hM2, hI2, hA2⟩ := ras_re H2.out
      have n1 : M1.length = l := by rw [← hl, ← hM1, List.length_map]
      have n2 : M2.length = l2 := by rw [← hl2, ← hM2, List.length_map]
      obtain ⟨kb, hkb⟩ : ∃ k, (chainE (rs ++ more)).2 = k := ⟨_, rfl⟩
      obtain ⟨ib, hib⟩ : ∃ i, chainR q (rs ++ more) = i := ⟨_, rfl⟩
      obtain ⟨vb, hvb⟩ : ∃ v, errV kb = v := ⟨_, rfl⟩
      have CB := hid (fun (u : World) (xx : Option Addr) (cc la : Nat) (hu : Ras u xx cc (rs ++ more)) (hla : (rs ++ more).length = la) (hqu : QyIs u q y s z t) => cfirst_any ib kb vb (rs ++ more) q u hu hla hqu hkb hib hvb)
      have FB : Hid (kb = 0 → 0 ≤ i → ib = i) := hid (fun e0 e1 => by subst e0; rw [← hib]; exact chain_append HK.out hkb HI.out e1)
      have HVB := hid hvb
      have QW := hid (fun (u : World) (hu : Below wr.heap.size wr u) => QQ.out.below hu)
      obtain ⟨x0, x1, q2, q3, q4, q5⟩ := bl6 KQ.out
      clear hkb hib hvb
      go_upto_region 13 with fail
      go_cut [15, 16] from 70 to 79 (fun vx ve wx => vx = .int .i64 ib ∧ ve = vb ∧ Below wr.heap.size wr wx)
      case first =>
        have l0 : ∀ s' : Okc wr, s'.val.cell? ⟨w.heap.size + 1, 0, none⟩ = some (.slice y q.N.length s) := fun s' => (s'.keeps.cell (p := ⟨w.heap.size + 1, 0, none⟩) KQ.out.lt).trans x0
        have l1 : ∀ s' : Okc wr, s'.val.cell? ⟨w.heap.size + 1, 1, none⟩ = some (.int .i64 q.ty) := fun s' => (s'.keeps.cell (p := ⟨w.heap.size + 1, 1, none⟩) KQ.out.lt).trans x1
        have l2' : ∀ s' : Okc wr, s'.val.cell? ⟨w.heap.size + 1, 2, none⟩ = some (.int .i64 q.cl) := fun s' => (s'.keeps.cell (p := ⟨w.heap.size + 1, 2, none⟩) KQ.out.lt).trans q2
        have l3 : ∀ s' : Okc wr, s'.val.cell? ⟨w.heap.size + 1, 3, none⟩ = some (.int .i64 q.opc) := fun s' => (s'.keeps.cell (p := ⟨w.heap.size + 1, 3, none⟩) KQ.out.lt).trans q3
        have l4 : ∀ s' : Okc wr, s'.val.cell? ⟨w.heap.size + 1, 4, none⟩ = some (.bool q.rd) := fun s' => (s'.keeps.cell (p := ⟨w.heap.size + 1, 4, none⟩) KQ.out.lt).trans q4
        have l5 : ∀ s' : Okc wr, s'.val.cell? ⟨w.heap.size + 1, 5, none⟩ = some (.slice z q.F.length t) := fun s' => (s'.keeps.cell (p := ⟨w.heap.size + 1, 5, none⟩) KQ.out.lt).trans q5
        have hNe : Nonempty (Okc wr) := ⟨⟨wr, Below.refl _ _⟩⟩
        clear x0 x1 q2 q3 q4 q5
        refine wp_region_pt (.qs [1, 3, 5] (.one 0 (.one 2 (.one 4 (.one 6 (.qs [7, 8, 9] (.one 10 (.one 11 .nil)))))))) (fun u => ∃ s' : Okc wr, u = s'.val) (by kernel_rfl) (by kernel_rfl) ?_
        refine ptL_qs ⟨⟨wr.drew, (Below.refl _ _).drew⟩, rfl⟩ ?_
        change wpQuiet _ _ _ _ [_, _, _] _
        repeat (go_big_quiet_step (fail))
        refine wpQuiet_nil ?_
        have HB := (Below.refl wr.heap.size wr).drew
        clear l0 l1 l2' l3 l4 l5
        refine stepL_at (by rfl) fun K Q' hK => ?_
        go_simp
        have R0 : RaRow wr wr.heap.size (World.alloc wr.drew (.cells #[] 25)) (.slice (some ⟨wr.heap.size, 0, none⟩) 0 0) [] := (by have e : RaRow wr wr.heap.size (World.alloc wr.drew (.cells #[] 25)) (.slice (some ⟨wr.drew.heap.size, 0, none⟩) 0 0) [] := rarow_lit (wp := wr) (B := wr.heap.size) [] HB HB.size (fun e he => by simp at he) (by simp); (first | exact e | simpa using e))
        replace HB := HB.alloc HB.size (.cells #[] 25)
        refine hK _ _ (fun _ => ⟨⟨_, HB⟩, rfl⟩) ?_
        clear hK
        refine stepL_at (by rfl) fun K Q' hK => ?_
        refine wp_append_re M1 (.tmp 71) (.tmp 72) rfl rfl rfl R0 n1 (hA1.below HB) hI1 (by simp; omega) (Nat.le_refl _) HB.size ?_
        intro v1 u1 r1 k1
        rw [hM1, List.nil_append] at r1
        replace HB := HB.trans k1
        refine hK _ _ (fun _ => ⟨⟨_, HB⟩, rfl⟩) ?_
        clear hK k1 R0
        refine stepL_at (by rfl) fun K Q' hK => ?_
        refine wp_append_re M2 (.tmp 73) (.tmp 74) rfl rfl rfl r1 n2 (hA2.below HB) hI2 (by omega) (Nat.le_refl _) HB.size ?_
        intro v2 u2 r2 k2
        rw [hM2] at r2
        obtain ⟨ya, da, rfl, hma⟩ := r2.ras (by rw [List.length_append]; omega)
        replace HB := HB.trans k2
        refine hK _ _ (fun _ => ⟨⟨_, HB⟩, rfl⟩) ?_
        clear hK k2 r1 r2
        refine stepL_at (by rfl) fun K Q' hK => ?_
        go_simp
        refine (CB.out u2 ya da _ hma (by simp only [List.length_append]; omega) (QW.out _ HB)).mono ?_
        rintro e u3 ⟨rfl, k3⟩
        replace HB := HB.trans (k3.mono HB.size)
        refine hK _ _ (fun _ => ⟨⟨_, HB⟩, rfl⟩) ?_
        clear hK k3 hma
        refine ptL_qs ⟨⟨_, HB⟩, rfl⟩ ?_
        change wpQuiet _ _ _ _ [_, _, _] _
        repeat (go_big_quiet_step (fail))
        refine wpQuiet_nil ?_
        refine stepL_at (by rfl) fun K Q' hK => ?_
        go_simp
        refine hK _ _ (fun _ => ⟨⟨_, HB⟩, rfl⟩) ?_
        clear hK
        refine stepL_at (by rfl) fun K Q' hK => ?_
        go_simp
        refine hK _ _ (fun _ => ⟨⟨_, HB⟩, rfl⟩) ?_
        clear hK
        refine ptL_nil ?_
        go_wp2
        go_meet
        exact ⟨rfl, rfl, HB⟩
      case rest =>
        obtain ⟨rfl, rfl, d⟩ := hcut
        replace KR := hid (KR.out.below d)
        replace KQ := hid (KQ.out.below d)
        replace H1 := hid (H1.out.below d)
        replace H3 := hid (H3.out.below d)
        replace QQ := hid (QQ.out.below d)
        replace WW := hid (grown_on WW.out d)
        clear d x0 x1 q2 q3 q4 q5 hI1 hI2 hA1 hA2 CB QW H2
        go_upto_region 14 with fail
        go_cut [90] from 80 to 90 (fun vx wx => vx = .bool false ∧ wx = wc)
        case first =>
          by_cases e0 : kb = 0
          · have e1 := HVB.out
            rw [e0] at e1
            obtain rfl := (show Value.nilIface = _ from e1)
            clear HVB
            by_cases e2 : 0 ≤ i
            · have e3 : ib = i := FB.out e0 e2
              subst e3
              clear e0 FB
              go_wp2_with fail
              go_meet
              exact ⟨rfl, rfl⟩
            · clear e0 FB
              go_wp2_with fail
              go_meet
              exact ⟨rfl, rfl⟩
          · obtain rfl := (errV_some e0).symm.trans HVB.out
            clear e0 FB HVB
            go_wp2_with fail
            go_meet
            exact ⟨rfl, rfl⟩
        case rest =>
          obtain ⟨rfl, rfl⟩ := hcut
          clear HVB FB
          obtain ⟨r0, r1⟩ : wc.cell? ⟨w.heap.size, 0, none⟩ = some (.slice x3 ms.length c3) ∧ wc.cell? ⟨w.heap.size, 1, none⟩ = some (.int .i64 act) := ⟨KR.out.cell (i := 0) rfl, KR.out.cell (i := 1) rfl⟩
          obtain ⟨x0, x1, q2, q3, q4, q5⟩ := bl6 KQ.out
          obtain ⟨o, ho⟩ : ∃ o, (if ruleE ms = 0 then holdN q ms else false) = o := ⟨_, rfl⟩
          obtain ⟨v9, hv9⟩ : ∃ v, errV (ruleE ms) = v := ⟨_, rfl⟩
          have CH := hid (rholds_either ms q o v9 wc H3.out rfl QQ.out ho hv9)
          have HO := hid ho
          have HV9 := hid hv9
          clear ho hv9
          go_wp2_with fail
          refine CH.out.mono ?_
          rintro e wk ⟨rfl, b⟩
          replace KR := hid (KR.out.below b)
          replace KQ := hid (KQ.out.below b)
          replace H1 := hid (H1.out.below b)
          replace H3 := hid (H3.out.below b)
          replace QQ := hid (QQ.out.below b)
          replace WW := hid (grown_on WW.out b)
          clear b CH r0 r1 x0 x1 q2 q3 q4 q5
          obtain ⟨r0, r1⟩ : wk.cell? ⟨w.heap.size, 0, none⟩ = some (.slice x3 ms.length c3) ∧ wk.cell? ⟨w.heap.size, 1, none⟩ = some (.int .i64 act) := ⟨KR.out.cell (i := 0) rfl, KR.out.cell (i := 1) rfl⟩
          obtain ⟨x0, x1, q2, q3, q4, q5⟩ := bl6 KQ.out
          obtain ⟨M1, hM1, hI1, hA1⟩ := ras_re H1.out
          have n1 : M1.length = l := by rw [← hl, ← hM1, List.length_map]
          obtain ⟨kb, hkb⟩ : ∃ k, (chainE (⟨ms, act⟩ :: rs)).2 = k := ⟨_, rfl⟩
          obtain ⟨ib, hib⟩ : ∃ i, chainR q (⟨ms, act⟩ :: rs) = i := ⟨_, rfl⟩
          obtain ⟨vb, hvb⟩ : ∃ v, errV kb = v := ⟨_, rfl⟩
          have CB := hid (fun (u : World) (xx : Option Addr) (cc la : Nat) (hu : Ras u xx cc (⟨ms, act⟩ :: rs)) (hla : (⟨ms, act⟩ :: rs : List Ra).length = la) (hqu : QyIs u q y s z t) => cfirst_any ib kb vb (⟨ms, act⟩ :: rs) q u hu hla hqu hkb hib hvb)
          have QW := hid (fun (u : World) (hu : Below wk.heap.size wk u) => QQ.out.below hu)
          have RI : ReIn wk ⟨⟨ms, act⟩, x3, c3⟩ := ⟨H3.out, HA.out⟩
          have HKB := hid hkb
          have HIB := hid hib
          have HVB := hid hvb
          clear hkb hib hvb
          go_upto_region 17 with fail
          go_cut [15, 19] from 98 to 106 (fun vx ve wx => vx = .int .i64 ib ∧ ve = vb ∧ Below wk.heap.size wk wx)
          case first =>
            have l0 : ∀ s' : Okc wk, s'.val.cell? ⟨w.heap.size + 1, 0, none⟩ = some (.slice y q.N.length s) := fun s' => (s'.keeps.cell (p := ⟨w.heap.size + 1, 0, none⟩) KQ.out.lt).trans x0
            have l1 : ∀ s' : Okc wk, s'.val.cell? ⟨w.heap.size + 1, 1, none⟩ = some (.int .i64 q.ty) := fun s' => (s'.keeps.cell (p := ⟨w.heap.size + 1, 1, none⟩) KQ.out.lt).trans x1
            have l2' : ∀ s' : Okc wk, s'.val.cell? ⟨w.heap.size + 1, 2, none⟩ = some (.int .i64 q.cl) := fun s' => (s'.keeps.cell (p := ⟨w.heap.size + 1, 2, none⟩) KQ.out.lt).trans q2
            have l3 : ∀ s' : Okc wk, s'.val.cell? ⟨w.heap.size + 1, 3, none⟩ = some (.int .i64 q.opc) := fun s' => (s'.keeps.cell (p := ⟨w.heap.size + 1, 3, none⟩) KQ.out.lt).trans q3
            have l4 : ∀ s' : Okc wk, s'.val.cell? ⟨w.heap.size + 1, 4, none⟩ = some (.bool q.rd) := fun s' => (s'.keeps.cell (p := ⟨w.heap.size + 1, 4, none⟩) KQ.out.lt).trans q4
            have l5 : ∀ s' : Okc wk, s'.val.cell? ⟨w.heap.size + 1, 5, none⟩ = some (.slice z q.F.length t) := fun s' => (s'.keeps.cell (p := ⟨w.heap.size + 1, 5, none⟩) KQ.out.lt).trans q5
            have l6 : ∀ s' : Okc wk, s'.val.cell? ⟨w.heap.size, 0, none⟩ = some (.slice x3 ms.length c3) := fun s' => (s'.keeps.cell (p := ⟨w.heap.size, 0, none⟩) KR.out.lt).trans r0
            have l7 : ∀ s' : Okc wk, s'.val.cell? ⟨w.heap.size, 1, none⟩ = some (.int .i64 act) := fun s' => (s'.keeps.cell (p := ⟨w.heap.size, 1, none⟩) KR.out.lt).trans r1
            have hNe : Nonempty (Okc wk) := ⟨⟨wk, Below.refl _ _⟩⟩
            clear x0 x1 q2 q3 q4 q5 r0 r1
            refine wp_region_pt (.qs [0, 2, 4] (.one 1 (.one 3 (.one 5 (.qs [6, 7, 8] (.one 9 (.one 10 .nil))))))) (fun u => ∃ s' : Okc wk, u = s'.val) (by kernel_rfl) (by kernel_rfl) ?_
            refine ptL_qs ⟨⟨wk.drew, (Below.refl _ _).drew⟩, rfl⟩ ?_
            change wpQuiet _ _ _ _ [_, _, _] _
            repeat (go_big_quiet_step (fail))
            refine wpQuiet_nil ?_
            have HB := (Below.refl wk.heap.size wk).drew
            clear l0 l1 l2' l3 l4 l5 l6 l7
            refine stepL_at (by rfl) fun K Q' hK => ?_
            go_simp
            have R0 : RaRow wk wk.heap.size (World.alloc wk.drew (.cells #[.slice x3 ms.length c3, .int .i64 act] 25)) (.slice (some ⟨wk.heap.size, 0, none⟩) 1 1) [⟨ms, act⟩] := (by have e : RaRow wk wk.heap.size (World.alloc wk.drew (.cells #[.slice x3 ms.length c3, .int .i64 act] 25)) (.slice (some ⟨wk.drew.heap.size, 0, none⟩) 1 1) [⟨ms, act⟩] := rarow_lit (wp := wk) (B := wk.heap.size) [⟨⟨ms, act⟩, x3, c3⟩] HB HB.size (fun e he => by rw [List.mem_singleton.1 he]; exact RI) (by simp); (first | exact e | simpa using e))
            replace HB := HB.alloc HB.size (.cells #[.slice x3 ms.length c3, .int .i64 act] 25)
            refine hK _ _ (fun _ => ⟨⟨_, HB⟩, rfl⟩) ?_
            clear hK
            refine stepL_at (by rfl) fun K Q' hK => ?_
            refine wp_append_re M1 (.tmp 100) (.tmp 101) rfl rfl rfl R0 n1 (hA1.below HB) hI1 (by simp; omega) (Nat.le_refl _) HB.size ?_
            intro v1 u1 r1 k1
            rw [hM1, List.singleton_append] at r1
            obtain ⟨ya, da, rfl, hma⟩ := r1.ras (by rw [List.length_cons]; omega)
            replace HB := HB.trans k1
            refine hK _ _ (fun _ => ⟨⟨_, HB⟩, rfl⟩) ?_
            clear hK k1 R0 r1
            refine stepL_at (by rfl) fun K Q' hK => ?_
            go_simp
            refine (CB.out u1 ya da _ hma (by simp only [List.length_cons]; omega) (QW.out _ HB)).mono ?_
            rintro e u3 ⟨rfl, k3⟩
            replace HB := HB.trans (k3.mono HB.size)
            refine hK _ _ (fun _ => ⟨⟨_, HB⟩, rfl⟩) ?_
            clear hK k3 hma
            refine ptL_qs ⟨⟨_, HB⟩, rfl⟩ ?_
            change wpQuiet _ _ _ _ [_, _, _] _
            repeat (go_big_quiet_step (fail))
            refine wpQuiet_nil ?_
            refine stepL_at (by rfl) fun K Q' hK => ?_
            go_simp
            refine hK _ _ (fun _ => ⟨⟨_, HB⟩, rfl⟩) ?_
            clear hK
            refine stepL_at (by rfl) fun K Q' hK => ?_
            go_simp
            refine hK _ _ (fun _ => ⟨⟨_, HB⟩, rfl⟩) ?_
            clear hK
            refine ptL_nil ?_
            go_wp2
            go_meet
            exact ⟨rfl, rfl, HB⟩
          case rest =>
            obtain ⟨rfl, rfl, d⟩ := hcut
            replace WW := hid (grown_on WW.out d)
            clear d x0 x1 q2 q3 q4 q5 r0 r1 hI1 hA1 CB QW RI KR KQ H1 H3 QQ hM1 n1 M1
            by_cases e2 : ruleE ms = 0
            · have e3 := HV9.out
              rw [e2] at e3
              obtain rfl := (show Value.nilIface = _ from e3)
              have e4 := HO.out
              rw [if_pos e2] at e4
              by_cases e5 : 50 ≤ l
              · have e6 : (50 : Int) ≤ (l : Int) := by omega
                have e7 : ¬ (l : Int) < 50 := by omega
                clear HO HV9 e2 e4 HKB HIB
                by_cases e8 : kb = 0
                · have e9 := HVB.out
                  rw [e8] at e9
                  obtain rfl := (show Value.nilIface = _ from e9)
                  clear HVB e8 e9
                  go_wp2_with fail
                  go_ret
                  exact ⟨rfl, WW.out⟩
                · obtain rfl := (errV_some e8).symm.trans HVB.out
                  clear HVB e8
                  go_wp2_with fail
                  go_ret
                  exact ⟨rfl, WW.out⟩
              · have e6 : ¬ (50 : Int) ≤ (l : Int) := by omega
                have e7 : (l : Int) < 50 := by omega
                obtain ⟨hz, hr⟩ := chain_ahead (r := ⟨ms, act⟩) HK.out HI.out e2 e4 (by omega)
                obtain rfl : kb = 0 := by rw [← HKB.out]; exact hz
                obtain rfl := (show Value.nilIface = _ from HVB.out)
                rw [HIB.out] at hr
                clear HO HV9 e2 e4 hz HKB HIB HVB
                cases o
                · by_cases hi0 : i < 0
                  · obtain rfl : ib = -1 := by rw [hr]; simp [hi0]
                    clear hr
                    go_wp2_with fail
                    go_ret
                    exact ⟨rfl, WW.out⟩
                  · obtain rfl : ib = i + 1 := by rw [hr]; simp [hi0]
                    have hi1 : 0 ≤ i := by omega
                    have hi2 : IntKind.i64.wrap (i + 1) = i + 1 := Go.IntWalk.i64_in _ (by have := Ch.first_hi (holds q rs); rw [FI.out] at this; simp [holds] at this; omega)
                    clear hr
                    go_wp2_with fail
                    go_ret
                    exact ⟨rfl, WW.out⟩
                · obtain rfl : ib = 0 := by rw [hr]; simp
                  clear hr
                  go_wp2_with fail
                  go_ret
                  exact ⟨rfl, WW.out⟩
            · obtain rfl := (errV_some e2).symm.trans HV9.out
              clear HO HV9 e2 HVB HIB HKB
              go_wp2_with fail
              go_ret
              exact ⟨rfl, WW.out⟩

end Go.Proofs.Ytnbabdfcamdapaa.Ru
