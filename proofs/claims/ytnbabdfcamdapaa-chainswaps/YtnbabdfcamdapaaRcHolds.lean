/-
  The walk of package rule's holds, by the tree.
-/
import Derived.Test.YtnbabdfcamdapaaRcRead
import Derived.Test.YtnbabdfcamdapaaForkU
namespace Go.Proofs.Ytnbabdfcamdapaa.Ru
open Go.RowKit Go.Deep

theorem takes_one {op : Int} (h : takes op = 1) : op = 8 := by
  unfold takes at h
  split at h
  · assumption
  · split at h <;> cases h

theorem takes_two {op : Int} (h : takes op = 2) : op = 9 ∨ op = 10 := by
  unfold takes at h
  split at h
  · cases h
  · split at h
    · assumption
    · cases h

theorem takes_none {op : Int} (h : takes op = 0) : (op == 8) = false ∧ (op == 9) = false ∧ (op == 10) = false := by
  unfold takes at h
  split at h
  · cases h
  · split at h
    · cases h
    · rename_i h1 h2
      simp
      omega

/-- A tree's values, each by itself. -/
theorem tcells_arr (m : Mt) (y1 : Option Addr) (s1 : Nat) (z1 : Option Addr) (t1 : Nat) (x : Option Addr) (n c : Nat) : (tcells ⟨m, y1, s1, z1, t1⟩ x n c).toArray = #[.int .i64 m.op, .int .i64 m.n, .slice y1 m.N.length s1, .slice z1 m.A.length t1, .slice x n c] := rfl

/-- What a call of holds answers. -/
def HoldsC (q : Qy) (tr : T) (y : Option Addr) (s : Nat) (z : Option Addr) (t : Nat) : Prop :=
  ∀ (v : Bool) (P : Nat → Prop) (m : Mt) (y1 : Option Addr) (s1 : Nat) (z1 : Option Addr) (t1 : Nat) (x : Option Addr) (n c : Nat) (u w : World), TIs u u P tr (tcells ⟨m, y1, s1, z1, t1⟩ x n c) → Below u.heap.size u w → QyIs w q y s z t → wf tr → (∀ m ∈ flat tr, matchE m = 0) → ev q tr = v →
    Calls Try.prog 13 #[.agg #[.int .i64 m.op, .int .i64 m.n, .slice y1 m.N.length s1, .slice z1 m.A.length t1, .slice x n c], .agg #[.slice y q.N.length s, .int .i64 q.ty, .int .i64 q.cl, .int .i64 q.opc, .bool q.rd, .slice z q.F.length t]] w fun e w' => e = .returned (.bool v) ∧ Below w.heap.size w w'

set_option maxHeartbeats 4000000 in
set_option maxRecDepth 100000 in
theorem holds_leaf (q : Qy) (mm : Mt) {y z : Option Addr} {s t : Nat} : HoldsC q (.leaf mm) y s z t := by
  intro v P m y1 s1 z1 t1 x n c u w hT hu hq hw hE hv
  obtain ⟨e, x', c', rfl, he, hme⟩ := hT
  simp only [tcells, List.cons.injEq, and_true, Value.int.injEq, true_and, Value.slice.injEq] at he
  obtain ⟨e1, e2, ⟨rfl, e3, rfl⟩, ⟨rfl, e4, rfl⟩, rfl, rfl, rfl⟩ := he
  obtain ⟨m', y1, s1, z1, t1⟩ := e
  simp only at *
  rw [e1, e2, e3, e4]
  clear e1 e2 e3 e4 m
  have hm0 : takes m'.op = 0 := hw
  have hme0 : matchE m' = 0 := hE m' List.mem_cons_self
  have hm1 := hme.below hu
  obtain ⟨B2, B1, B3⟩ := rlTwo 48 29 w #[.int .i64 m'.op, .int .i64 m'.n, .slice y1 m'.N.length s1, .slice z1 m'.A.length t1, .slice x 0 c] #[.slice y q.N.length s, .int .i64 q.ty, .int .i64 q.cl, .int .i64 q.opc, .bool q.rd, .slice z q.F.length t]
  obtain ⟨W1, hW⟩ : ∃ W1, (w.alloc (.cells #[.int .i64 m'.op, .int .i64 m'.n, .slice y1 m'.N.length s1, .slice z1 m'.A.length t1, .slice x 0 c] 48)).alloc (.cells #[.slice y q.N.length s, .int .i64 q.ty, .int .i64 q.cl, .int .i64 q.opc, .bool q.rd, .slice z q.F.length t] 29) = W1 := ⟨_, rfl⟩
  rw [hW] at B1 B2 B3
  have HW := hid hW
  have CB := hid (nasks_at q m' v W1 (hm1.below B3).1 (hm1.below B3).2.1 (hm1.below B3).2.2.1 (hq.below B3) hm0 hme0 hv)
  have WW := hid B3
  obtain ⟨q0, q1, q2, q3, q4, q5⟩ := bl6 B1
  obtain ⟨m0, m1, m2, m3, m4⟩ := bl5 B2
  obtain ⟨d8, d9, d10⟩ := takes_none hm0
  clear hq hE hw hv hme hm1 hu B1 B2 B3 hW hm0 hme0
  go_enter Try.func13, Try.ntmps13
  go_upto_region 1 with fail
  rw [HW.out]
  clear HW
  go_wp2_with fail
  refine CB.out.mono ?_
  rintro e w2 ⟨rfl, b2⟩
  have W2 := hid (WW.out.trans (b2.mono WW.out.size))
  clear b2 CB
  go_wp2_with fail
  go_ret
  exact ⟨rfl, W2.out⟩

set_option maxHeartbeats 4000000 in
set_option maxRecDepth 100000 in
theorem holds_one (q : Qy) (mm : Mt) (a : T) {y z : Option Addr} {s t : Nat} (ih : HoldsC q a y s z t) : HoldsC q (.one mm a) y s z t := by
  intro v P m y1 s1 z1 t1 x n c u w hT hu hq hw hE hv
  obtain ⟨e, g, c', ca, rfl, he, hme, hg, hPg, hc, hcs, ha⟩ := hT
  obtain ⟨ea, xa, na, cA, rfl⟩ := ha.form
  simp only [tcells, List.cons.injEq, and_true, Value.int.injEq, true_and, Value.slice.injEq] at he
  obtain ⟨e1, e2, ⟨rfl, e3, rfl⟩, ⟨rfl, e4, rfl⟩, rfl, rfl, rfl⟩ := he
  obtain ⟨m', y1, s1, z1, t1⟩ := e
  obtain ⟨ma, ya, sa, za, ta⟩ := ea
  simp only at *
  have h8 : m'.op = 8 := takes_one hw.1
  rw [e1, e2, e3, e4, h8]
  clear e1 e2 e3 e4 m hme
  obtain ⟨va, hva⟩ : ∃ va, ev q a = va := ⟨_, rfl⟩
  have C := fun (wx : World) (hx : Below u.heap.size u wx) (hqx : QyIs wx q y s z t) => ih va P ma ya sa za ta xa na cA u wx ha hx hqx hw.2 (fun m hm => hE m (by unfold flat; exact List.mem_append_left _ hm)) hva
  have hV : (!va) = v := by rw [← hv, ← hva]; rfl
  subst hV
  obtain ⟨B2, B1, B3⟩ := rlTwo 48 29 w #[.int .i64 8, .int .i64 m'.n, .slice y1 m'.N.length s1, .slice z1 m'.A.length t1, .slice (some ⟨g, 0, none⟩) 1 c] #[.slice y q.N.length s, .int .i64 q.ty, .int .i64 q.cl, .int .i64 q.opc, .bool q.rd, .slice z q.F.length t]
  obtain ⟨W1, hW⟩ : ∃ W1, (w.alloc (.cells #[.int .i64 8, .int .i64 m'.n, .slice y1 m'.N.length s1, .slice z1 m'.A.length t1, .slice (some ⟨g, 0, none⟩) 1 c] 48)).alloc (.cells #[.slice y q.N.length s, .int .i64 q.ty, .int .i64 q.cl, .int .i64 q.opc, .bool q.rd, .slice z q.F.length t] 29) = W1 := ⟨_, rfl⟩
  rw [hW] at B1 B2 B3
  have HW := hid hW
  have WW := hid B3
  have UU := hid (hu.trans (B3.mono hu.size))
  have QQ := hid (hq.below B3)
  have CC := hid C
  have A1 := hid B1
  have A2 := hid B2
  have GG := hid hg
  have j0 := hcs 0 _ rfl
  have j1 := hcs 1 _ rfl
  have j2 := hcs 2 _ rfl
  have j3 := hcs 3 _ rfl
  have j4 := hcs 4 _ rfl
  have k0 : W1.cell? ⟨w.heap.size, 0, none⟩ = some (.int .i64 8) := (bl5 B2).1
  clear hq hE hw hv hu B1 B2 B3 hW C hcs ha hva ih
  go_enter Try.func13, Try.ntmps13
  go_upto_region 1 with fail
  rw [HW.out]
  clear HW
  go_upto_region 3 with fail
  obtain ⟨q0, q1, q2, q3, q4, q5⟩ := bl6 A1.out
  have m4 := (bl5 A2.out).2.2.2.2
  have l0 : ∀ s' : Od W1, s'.val.cell? ⟨w.heap.size + 1, 0, none⟩ = some (.slice y q.N.length s) := fun s' => (s'.keeps.cell (p := ⟨w.heap.size + 1, 0, none⟩) A1.out.lt).trans q0
  have l1 : ∀ s' : Od W1, s'.val.cell? ⟨w.heap.size + 1, 1, none⟩ = some (.int .i64 q.ty) := fun s' => (s'.keeps.cell (p := ⟨w.heap.size + 1, 1, none⟩) A1.out.lt).trans q1
  have l2 : ∀ s' : Od W1, s'.val.cell? ⟨w.heap.size + 1, 2, none⟩ = some (.int .i64 q.cl) := fun s' => (s'.keeps.cell (p := ⟨w.heap.size + 1, 2, none⟩) A1.out.lt).trans q2
  have l3 : ∀ s' : Od W1, s'.val.cell? ⟨w.heap.size + 1, 3, none⟩ = some (.int .i64 q.opc) := fun s' => (s'.keeps.cell (p := ⟨w.heap.size + 1, 3, none⟩) A1.out.lt).trans q3
  have l4 : ∀ s' : Od W1, s'.val.cell? ⟨w.heap.size + 1, 4, none⟩ = some (.bool q.rd) := fun s' => (s'.keeps.cell (p := ⟨w.heap.size + 1, 4, none⟩) A1.out.lt).trans q4
  have l5 : ∀ s' : Od W1, s'.val.cell? ⟨w.heap.size + 1, 5, none⟩ = some (.slice z q.F.length t) := fun s' => (s'.keeps.cell (p := ⟨w.heap.size + 1, 5, none⟩) A1.out.lt).trans q5
  have l6 : ∀ s' : Od W1, s'.val.cell? ⟨w.heap.size, 4, none⟩ = some (.slice (some ⟨g, 0, none⟩) 1 c) := fun s' => (s'.keeps.cell (p := ⟨w.heap.size, 4, none⟩) A2.out.lt).trans m4
  have lg : g < W1.heap.size := Nat.lt_of_lt_of_le GG.out UU.out.size
  have i0 : ∀ s' : Od W1, s'.val.cell? ⟨g, 0, none⟩ = some (.int .i64 ma.op) := fun s' => (s'.keeps.cell (p := ⟨g, 0, none⟩) lg).trans ((UU.out.cell (p := ⟨g, 0, none⟩) GG.out).trans j0)
  have i1 : ∀ s' : Od W1, s'.val.cell? ⟨g, 1, none⟩ = some (.int .i64 ma.n) := fun s' => (s'.keeps.cell (p := ⟨g, 1, none⟩) lg).trans ((UU.out.cell (p := ⟨g, 1, none⟩) GG.out).trans j1)
  have i2 : ∀ s' : Od W1, s'.val.cell? ⟨g, 2, none⟩ = some (.slice ya ma.N.length sa) := fun s' => (s'.keeps.cell (p := ⟨g, 2, none⟩) lg).trans ((UU.out.cell (p := ⟨g, 2, none⟩) GG.out).trans j2)
  have i3 : ∀ s' : Od W1, s'.val.cell? ⟨g, 3, none⟩ = some (.slice za ma.A.length ta) := fun s' => (s'.keeps.cell (p := ⟨g, 3, none⟩) lg).trans ((UU.out.cell (p := ⟨g, 3, none⟩) GG.out).trans j3)
  have i4 : ∀ s' : Od W1, s'.val.cell? ⟨g, 4, none⟩ = some (.slice xa na cA) := fun s' => (s'.keeps.cell (p := ⟨g, 4, none⟩) lg).trans ((UU.out.cell (p := ⟨g, 4, none⟩) GG.out).trans j4)
  have hNe : Nonempty (Od W1) := ⟨⟨W1, Below.refl _ _⟩⟩
  clear q0 q1 q2 q3 q4 q5 m4 j0 j1 j2 j3 j4 k0 lg
  refine wp_region_pt (.qs [0, 1, 2, 3, 4] (.one 5 (.one 6 (.one 7 .nil)))) (fun u => ∃ s' : Od W1, u = s'.val) (by kernel_rfl) (by kernel_rfl) ?_
  refine ptL_qs ⟨⟨W1.drew, (Below.refl _ _).drew⟩, rfl⟩ ?_
  change wpQuiet _ _ _ _ [_, _, _, _, _] _
  repeat (go_big_quiet_step (fail))
  refine wpQuiet_nil ?_
  have HB := (Below.refl W1.heap.size W1).drew
  refine stepL_at (by rfl) fun K Q' hK => ?_
  go_simp
  refine (CC.out _ (UU.out.trans (HB.mono UU.out.size)) (QQ.out.below HB)).mono ?_
  rintro e u1 ⟨rfl, d⟩
  replace HB := HB.trans (d.mono HB.size)
  refine hK _ _ (fun _ => ⟨⟨_, HB⟩, rfl⟩) ?_
  clear hK d
  refine stepL_at (by rfl) fun K Q' hK => ?_
  go_simp
  refine hK _ _ (fun _ => ⟨⟨_, HB⟩, rfl⟩) ?_
  clear hK
  refine stepL_at (by rfl) fun K Q' hK => ?_
  go_simp
  refine hK _ _ (fun _ => ⟨⟨_, HB⟩, rfl⟩) ?_
  clear hK
  refine ptL_nil ?_
  have B9 := hid (WW.out.trans (HB.mono WW.out.size))
  clear HB l0 l1 l2 l3 l4 l5 l6 hNe i0 i1 i2 i3 i4
  go_wp2_with fail
  go_ret
  exact ⟨rfl, B9.out⟩

-- TWO
set_option maxHeartbeats 4000000 in
set_option maxRecDepth 100000 in
theorem holds_and (q : Qy) (mm : Mt) (a b : T) {y z : Option Addr} {s t : Nat} (h9 : mm.op = 9) (ia : HoldsC q a y s z t) (ib : HoldsC q b y s z t) : HoldsC q (.two mm a b) y s z t := by
  intro v P m y1 s1 z1 t1 x n c u w hT hu hq hw hE hv
  obtain ⟨e, g, c', ca, cb, rfl, he, hme, hg, hPg, hc, hcs, ha, hb⟩ := hT
  obtain ⟨ea, xa, na, cA, rfl⟩ := ha.form
  obtain ⟨eb, xb, nb, cB, rfl⟩ := hb.form
  simp only [tcells, List.cons.injEq, and_true, Value.int.injEq, true_and, Value.slice.injEq] at he
  obtain ⟨e1, e2, ⟨rfl, e3, rfl⟩, ⟨rfl, e4, rfl⟩, rfl, rfl, rfl⟩ := he
  obtain ⟨m', y1, s1, z1, t1⟩ := e
  obtain ⟨ma, ya, sa, za, ta⟩ := ea
  obtain ⟨mb, yb, sb, zb, tb⟩ := eb
  simp only at *
  rw [e1, e2, e3, e4, h9]
  clear e1 e2 e3 e4 m hme
  obtain ⟨va, hva⟩ : ∃ va, ev q a = va := ⟨_, rfl⟩
  obtain ⟨vb, hvb⟩ : ∃ vb, ev q b = vb := ⟨_, rfl⟩
  have C := fun (wx : World) (hx : Below u.heap.size u wx) (hqx : QyIs wx q y s z t) => ia va P ma ya sa za ta xa na cA u wx ha hx hqx hw.2.1 (fun m hm => hE m (by unfold flat; exact List.mem_append_left _ (List.mem_append_left _ hm))) hva
  have D := fun (wx : World) (hx : Below u.heap.size u wx) (hqx : QyIs wx q y s z t) => ib vb P mb yb sb zb tb xb nb cB u wx hb hx hqx hw.2.2 (fun m hm => hE m (by unfold flat; exact List.mem_append_left _ (List.mem_append_right _ hm))) hvb
  have hV : (va && vb) = v := by rw [← hv, ← hva, ← hvb]; exact (if_pos h9).symm
  subst hV
  obtain ⟨B2, B1, B3⟩ := rlTwo 48 29 w #[.int .i64 9, .int .i64 m'.n, .slice y1 m'.N.length s1, .slice z1 m'.A.length t1, .slice (some ⟨g, 0, none⟩) 2 c] #[.slice y q.N.length s, .int .i64 q.ty, .int .i64 q.cl, .int .i64 q.opc, .bool q.rd, .slice z q.F.length t]
  obtain ⟨W1, hW⟩ : ∃ W1, (w.alloc (.cells #[.int .i64 9, .int .i64 m'.n, .slice y1 m'.N.length s1, .slice z1 m'.A.length t1, .slice (some ⟨g, 0, none⟩) 2 c] 48)).alloc (.cells #[.slice y q.N.length s, .int .i64 q.ty, .int .i64 q.cl, .int .i64 q.opc, .bool q.rd, .slice z q.F.length t] 29) = W1 := ⟨_, rfl⟩
  rw [hW] at B1 B2 B3
  have HW := hid hW
  have WW := hid B3
  have UU := hid (hu.trans (B3.mono hu.size))
  have QQ := hid (hq.below B3)
  have CC := hid C
  have DD := hid D
  have A1 := hid B1
  have A2 := hid B2
  have GG := hid hg
  have j0 := hcs 0 _ rfl
  have j1 := hcs 1 _ rfl
  have j2 := hcs 2 _ rfl
  have j3 := hcs 3 _ rfl
  have j4 := hcs 4 _ rfl
  have j5 := hcs 5 _ rfl
  have j6 := hcs 6 _ rfl
  have j7 := hcs 7 _ rfl
  have j8 := hcs 8 _ rfl
  have j9 := hcs 9 _ rfl
  have k0 : W1.cell? ⟨w.heap.size, 0, none⟩ = some (.int .i64 9) := (bl5 B2).1
  clear hq hE hw hv hu B1 B2 B3 hW C D hcs ha hb hva hvb ia ib h9
  go_enter Try.func13, Try.ntmps13
  go_upto_region 1 with fail
  rw [HW.out]
  clear HW
  go_upto_region 5 with fail
  obtain ⟨q0, q1, q2, q3, q4, q5⟩ := bl6 A1.out
  have m4 := (bl5 A2.out).2.2.2.2
  have l0 : ∀ s' : Od W1, s'.val.cell? ⟨w.heap.size + 1, 0, none⟩ = some (.slice y q.N.length s) := fun s' => (s'.keeps.cell (p := ⟨w.heap.size + 1, 0, none⟩) A1.out.lt).trans q0
  have l1 : ∀ s' : Od W1, s'.val.cell? ⟨w.heap.size + 1, 1, none⟩ = some (.int .i64 q.ty) := fun s' => (s'.keeps.cell (p := ⟨w.heap.size + 1, 1, none⟩) A1.out.lt).trans q1
  have l2 : ∀ s' : Od W1, s'.val.cell? ⟨w.heap.size + 1, 2, none⟩ = some (.int .i64 q.cl) := fun s' => (s'.keeps.cell (p := ⟨w.heap.size + 1, 2, none⟩) A1.out.lt).trans q2
  have l3 : ∀ s' : Od W1, s'.val.cell? ⟨w.heap.size + 1, 3, none⟩ = some (.int .i64 q.opc) := fun s' => (s'.keeps.cell (p := ⟨w.heap.size + 1, 3, none⟩) A1.out.lt).trans q3
  have l4 : ∀ s' : Od W1, s'.val.cell? ⟨w.heap.size + 1, 4, none⟩ = some (.bool q.rd) := fun s' => (s'.keeps.cell (p := ⟨w.heap.size + 1, 4, none⟩) A1.out.lt).trans q4
  have l5 : ∀ s' : Od W1, s'.val.cell? ⟨w.heap.size + 1, 5, none⟩ = some (.slice z q.F.length t) := fun s' => (s'.keeps.cell (p := ⟨w.heap.size + 1, 5, none⟩) A1.out.lt).trans q5
  have l6 : ∀ s' : Od W1, s'.val.cell? ⟨w.heap.size, 4, none⟩ = some (.slice (some ⟨g, 0, none⟩) 2 c) := fun s' => (s'.keeps.cell (p := ⟨w.heap.size, 4, none⟩) A2.out.lt).trans m4
  have lg : g < W1.heap.size := Nat.lt_of_lt_of_le GG.out UU.out.size
  have i0 : ∀ s' : Od W1, s'.val.cell? ⟨g, 0, none⟩ = some (.int .i64 ma.op) := fun s' => (s'.keeps.cell (p := ⟨g, 0, none⟩) lg).trans ((UU.out.cell (p := ⟨g, 0, none⟩) GG.out).trans j0)
  have i1 : ∀ s' : Od W1, s'.val.cell? ⟨g, 1, none⟩ = some (.int .i64 ma.n) := fun s' => (s'.keeps.cell (p := ⟨g, 1, none⟩) lg).trans ((UU.out.cell (p := ⟨g, 1, none⟩) GG.out).trans j1)
  have i2 : ∀ s' : Od W1, s'.val.cell? ⟨g, 2, none⟩ = some (.slice ya ma.N.length sa) := fun s' => (s'.keeps.cell (p := ⟨g, 2, none⟩) lg).trans ((UU.out.cell (p := ⟨g, 2, none⟩) GG.out).trans j2)
  have i3 : ∀ s' : Od W1, s'.val.cell? ⟨g, 3, none⟩ = some (.slice za ma.A.length ta) := fun s' => (s'.keeps.cell (p := ⟨g, 3, none⟩) lg).trans ((UU.out.cell (p := ⟨g, 3, none⟩) GG.out).trans j3)
  have i4 : ∀ s' : Od W1, s'.val.cell? ⟨g, 4, none⟩ = some (.slice xa na cA) := fun s' => (s'.keeps.cell (p := ⟨g, 4, none⟩) lg).trans ((UU.out.cell (p := ⟨g, 4, none⟩) GG.out).trans j4)
  have i5 : ∀ s' : Od W1, s'.val.cell? ⟨g, 5, none⟩ = some (.int .i64 mb.op) := fun s' => (s'.keeps.cell (p := ⟨g, 5, none⟩) lg).trans ((UU.out.cell (p := ⟨g, 5, none⟩) GG.out).trans j5)
  have i6 : ∀ s' : Od W1, s'.val.cell? ⟨g, 6, none⟩ = some (.int .i64 mb.n) := fun s' => (s'.keeps.cell (p := ⟨g, 6, none⟩) lg).trans ((UU.out.cell (p := ⟨g, 6, none⟩) GG.out).trans j6)
  have i7 : ∀ s' : Od W1, s'.val.cell? ⟨g, 7, none⟩ = some (.slice yb mb.N.length sb) := fun s' => (s'.keeps.cell (p := ⟨g, 7, none⟩) lg).trans ((UU.out.cell (p := ⟨g, 7, none⟩) GG.out).trans j7)
  have i8 : ∀ s' : Od W1, s'.val.cell? ⟨g, 8, none⟩ = some (.slice zb mb.A.length tb) := fun s' => (s'.keeps.cell (p := ⟨g, 8, none⟩) lg).trans ((UU.out.cell (p := ⟨g, 8, none⟩) GG.out).trans j8)
  have i9 : ∀ s' : Od W1, s'.val.cell? ⟨g, 9, none⟩ = some (.slice xb nb cB) := fun s' => (s'.keeps.cell (p := ⟨g, 9, none⟩) lg).trans ((UU.out.cell (p := ⟨g, 9, none⟩) GG.out).trans j9)
  have hNe : Nonempty (Od W1) := ⟨⟨W1, Below.refl _ _⟩⟩
  clear q0 q1 q2 q3 q4 q5 m4 j0 j1 j2 j3 j4 j5 j6 j7 j8 j9 k0 lg
  refine wp_region_ut (.qs [0, 1, 2, 3, 4] (.one 5 (.one 6 (.qs [7, 8, 9, 10, 11] (.one 12 (.one 13 (.one 14 .nil))))))) (fun u => ∃ s' : Od W1, u = s'.val) (by kernel_rfl) (by kernel_rfl) ?_
  refine utL_qs ⟨⟨W1.drew, (Below.refl _ _).drew⟩, rfl⟩ ?_
  change wpQuiet _ _ _ _ [_, _, _, _, _] _
  repeat (go_big_quiet_step (fail))
  refine wpQuiet_nil ?_
  have HB := (Below.refl W1.heap.size W1).drew
  refine stepU_at (by rfl) fun K Q' hK => ?_
  go_simp
  refine (CC.out _ (UU.out.trans (HB.mono UU.out.size)) (QQ.out.below HB)).mono ?_
  rintro e u1 ⟨rfl, d⟩
  replace HB := HB.trans (d.mono HB.size)
  refine hK _ _ (fun _ => ⟨⟨_, HB⟩, rfl⟩) ?_
  clear hK d
  refine stepU_at (by rfl) fun K Q' hK => ?_
  go_simp
  refine hK _ _ (fun _ => ⟨⟨_, HB⟩, rfl⟩) ?_
  clear hK
  cases va
  · refine utL_qs ⟨⟨_, HB⟩, rfl⟩ ?_
    change wpQuiet _ _ _ _ [_, _, _, _, _] _
    repeat (go_big_quiet_step (fail))
    refine wpQuiet_nil ?_
    refine stepU_off (by rfl) ⟨⟨_, HB⟩, rfl⟩ ?_
    refine stepU_at (by rfl) fun K Q' hK => ?_
    go_simp
    refine hK _ _ (fun _ => ⟨⟨_, HB⟩, rfl⟩) ?_
    clear hK
    refine stepU_at (by rfl) fun K Q' hK => ?_
    go_simp
    refine hK _ _ (fun _ => ⟨⟨_, HB⟩, rfl⟩) ?_
    clear hK
    refine utL_nil ?_
    have B9 := hid (WW.out.trans (HB.mono WW.out.size))
    clear HB l0 l1 l2 l3 l4 l5 l6 hNe i0 i1 i2 i3 i4 i5 i6 i7 i8 i9
    go_wp2_with fail
    go_ret
    exact ⟨rfl, B9.out⟩
  · refine utL_qs ⟨⟨_, HB⟩, rfl⟩ ?_
    change wpQuiet _ _ _ _ [_, _, _, _, _] _
    repeat (go_big_quiet_step (fail))
    refine wpQuiet_nil ?_
    refine stepU_at (by rfl) fun K Q' hK => ?_
    go_simp
    refine (DD.out _ (UU.out.trans (HB.mono UU.out.size)) (QQ.out.below HB)).mono ?_
    rintro e u2 ⟨rfl, d⟩
    replace HB := HB.trans (d.mono HB.size)
    refine hK _ _ (fun _ => ⟨⟨_, HB⟩, rfl⟩) ?_
    clear hK d
    refine stepU_at (by rfl) fun K Q' hK => ?_
    go_simp
    refine hK _ _ (fun _ => ⟨⟨_, HB⟩, rfl⟩) ?_
    clear hK
    refine stepU_at (by rfl) fun K Q' hK => ?_
    go_simp
    refine hK _ _ (fun _ => ⟨⟨_, HB⟩, rfl⟩) ?_
    clear hK
    refine utL_nil ?_
    have B9 := hid (WW.out.trans (HB.mono WW.out.size))
    clear HB l0 l1 l2 l3 l4 l5 l6 hNe i0 i1 i2 i3 i4 i5 i6 i7 i8 i9
    go_wp2_with fail
    go_ret
    exact ⟨rfl, B9.out⟩

set_option maxHeartbeats 4000000 in
set_option maxRecDepth 100000 in
theorem holds_or (q : Qy) (mm : Mt) (a b : T) {y z : Option Addr} {s t : Nat} (h9 : mm.op = 10) (ia : HoldsC q a y s z t) (ib : HoldsC q b y s z t) : HoldsC q (.two mm a b) y s z t := by
  intro v P m y1 s1 z1 t1 x n c u w hT hu hq hw hE hv
  obtain ⟨e, g, c', ca, cb, rfl, he, hme, hg, hPg, hc, hcs, ha, hb⟩ := hT
  obtain ⟨ea, xa, na, cA, rfl⟩ := ha.form
  obtain ⟨eb, xb, nb, cB, rfl⟩ := hb.form
  simp only [tcells, List.cons.injEq, and_true, Value.int.injEq, true_and, Value.slice.injEq] at he
  obtain ⟨e1, e2, ⟨rfl, e3, rfl⟩, ⟨rfl, e4, rfl⟩, rfl, rfl, rfl⟩ := he
  obtain ⟨m', y1, s1, z1, t1⟩ := e
  obtain ⟨ma, ya, sa, za, ta⟩ := ea
  obtain ⟨mb, yb, sb, zb, tb⟩ := eb
  simp only at *
  rw [e1, e2, e3, e4, h9]
  clear e1 e2 e3 e4 m hme
  obtain ⟨va, hva⟩ : ∃ va, ev q a = va := ⟨_, rfl⟩
  obtain ⟨vb, hvb⟩ : ∃ vb, ev q b = vb := ⟨_, rfl⟩
  have C := fun (wx : World) (hx : Below u.heap.size u wx) (hqx : QyIs wx q y s z t) => ia va P ma ya sa za ta xa na cA u wx ha hx hqx hw.2.1 (fun m hm => hE m (by unfold flat; exact List.mem_append_left _ (List.mem_append_left _ hm))) hva
  have D := fun (wx : World) (hx : Below u.heap.size u wx) (hqx : QyIs wx q y s z t) => ib vb P mb yb sb zb tb xb nb cB u wx hb hx hqx hw.2.2 (fun m hm => hE m (by unfold flat; exact List.mem_append_left _ (List.mem_append_right _ hm))) hvb
  have hV : (va || vb) = v := by rw [← hv, ← hva, ← hvb]; exact (if_neg (by rw [h9]; decide)).symm
  subst hV
  obtain ⟨B2, B1, B3⟩ := rlTwo 48 29 w #[.int .i64 10, .int .i64 m'.n, .slice y1 m'.N.length s1, .slice z1 m'.A.length t1, .slice (some ⟨g, 0, none⟩) 2 c] #[.slice y q.N.length s, .int .i64 q.ty, .int .i64 q.cl, .int .i64 q.opc, .bool q.rd, .slice z q.F.length t]
  obtain ⟨W1, hW⟩ : ∃ W1, (w.alloc (.cells #[.int .i64 10, .int .i64 m'.n, .slice y1 m'.N.length s1, .slice z1 m'.A.length t1, .slice (some ⟨g, 0, none⟩) 2 c] 48)).alloc (.cells #[.slice y q.N.length s, .int .i64 q.ty, .int .i64 q.cl, .int .i64 q.opc, .bool q.rd, .slice z q.F.length t] 29) = W1 := ⟨_, rfl⟩
  rw [hW] at B1 B2 B3
  have HW := hid hW
  have WW := hid B3
  have UU := hid (hu.trans (B3.mono hu.size))
  have QQ := hid (hq.below B3)
  have CC := hid C
  have DD := hid D
  have A1 := hid B1
  have A2 := hid B2
  have GG := hid hg
  have j0 := hcs 0 _ rfl
  have j1 := hcs 1 _ rfl
  have j2 := hcs 2 _ rfl
  have j3 := hcs 3 _ rfl
  have j4 := hcs 4 _ rfl
  have j5 := hcs 5 _ rfl
  have j6 := hcs 6 _ rfl
  have j7 := hcs 7 _ rfl
  have j8 := hcs 8 _ rfl
  have j9 := hcs 9 _ rfl
  have k0 : W1.cell? ⟨w.heap.size, 0, none⟩ = some (.int .i64 10) := (bl5 B2).1
  clear hq hE hw hv hu B1 B2 B3 hW C D hcs ha hb hva hvb ia ib h9
  go_enter Try.func13, Try.ntmps13
  go_upto_region 1 with fail
  rw [HW.out]
  clear HW
  go_upto_region 7 with fail
  obtain ⟨q0, q1, q2, q3, q4, q5⟩ := bl6 A1.out
  have m4 := (bl5 A2.out).2.2.2.2
  have l0 : ∀ s' : Od W1, s'.val.cell? ⟨w.heap.size + 1, 0, none⟩ = some (.slice y q.N.length s) := fun s' => (s'.keeps.cell (p := ⟨w.heap.size + 1, 0, none⟩) A1.out.lt).trans q0
  have l1 : ∀ s' : Od W1, s'.val.cell? ⟨w.heap.size + 1, 1, none⟩ = some (.int .i64 q.ty) := fun s' => (s'.keeps.cell (p := ⟨w.heap.size + 1, 1, none⟩) A1.out.lt).trans q1
  have l2 : ∀ s' : Od W1, s'.val.cell? ⟨w.heap.size + 1, 2, none⟩ = some (.int .i64 q.cl) := fun s' => (s'.keeps.cell (p := ⟨w.heap.size + 1, 2, none⟩) A1.out.lt).trans q2
  have l3 : ∀ s' : Od W1, s'.val.cell? ⟨w.heap.size + 1, 3, none⟩ = some (.int .i64 q.opc) := fun s' => (s'.keeps.cell (p := ⟨w.heap.size + 1, 3, none⟩) A1.out.lt).trans q3
  have l4 : ∀ s' : Od W1, s'.val.cell? ⟨w.heap.size + 1, 4, none⟩ = some (.bool q.rd) := fun s' => (s'.keeps.cell (p := ⟨w.heap.size + 1, 4, none⟩) A1.out.lt).trans q4
  have l5 : ∀ s' : Od W1, s'.val.cell? ⟨w.heap.size + 1, 5, none⟩ = some (.slice z q.F.length t) := fun s' => (s'.keeps.cell (p := ⟨w.heap.size + 1, 5, none⟩) A1.out.lt).trans q5
  have l6 : ∀ s' : Od W1, s'.val.cell? ⟨w.heap.size, 4, none⟩ = some (.slice (some ⟨g, 0, none⟩) 2 c) := fun s' => (s'.keeps.cell (p := ⟨w.heap.size, 4, none⟩) A2.out.lt).trans m4
  have lg : g < W1.heap.size := Nat.lt_of_lt_of_le GG.out UU.out.size
  have i0 : ∀ s' : Od W1, s'.val.cell? ⟨g, 0, none⟩ = some (.int .i64 ma.op) := fun s' => (s'.keeps.cell (p := ⟨g, 0, none⟩) lg).trans ((UU.out.cell (p := ⟨g, 0, none⟩) GG.out).trans j0)
  have i1 : ∀ s' : Od W1, s'.val.cell? ⟨g, 1, none⟩ = some (.int .i64 ma.n) := fun s' => (s'.keeps.cell (p := ⟨g, 1, none⟩) lg).trans ((UU.out.cell (p := ⟨g, 1, none⟩) GG.out).trans j1)
  have i2 : ∀ s' : Od W1, s'.val.cell? ⟨g, 2, none⟩ = some (.slice ya ma.N.length sa) := fun s' => (s'.keeps.cell (p := ⟨g, 2, none⟩) lg).trans ((UU.out.cell (p := ⟨g, 2, none⟩) GG.out).trans j2)
  have i3 : ∀ s' : Od W1, s'.val.cell? ⟨g, 3, none⟩ = some (.slice za ma.A.length ta) := fun s' => (s'.keeps.cell (p := ⟨g, 3, none⟩) lg).trans ((UU.out.cell (p := ⟨g, 3, none⟩) GG.out).trans j3)
  have i4 : ∀ s' : Od W1, s'.val.cell? ⟨g, 4, none⟩ = some (.slice xa na cA) := fun s' => (s'.keeps.cell (p := ⟨g, 4, none⟩) lg).trans ((UU.out.cell (p := ⟨g, 4, none⟩) GG.out).trans j4)
  have i5 : ∀ s' : Od W1, s'.val.cell? ⟨g, 5, none⟩ = some (.int .i64 mb.op) := fun s' => (s'.keeps.cell (p := ⟨g, 5, none⟩) lg).trans ((UU.out.cell (p := ⟨g, 5, none⟩) GG.out).trans j5)
  have i6 : ∀ s' : Od W1, s'.val.cell? ⟨g, 6, none⟩ = some (.int .i64 mb.n) := fun s' => (s'.keeps.cell (p := ⟨g, 6, none⟩) lg).trans ((UU.out.cell (p := ⟨g, 6, none⟩) GG.out).trans j6)
  have i7 : ∀ s' : Od W1, s'.val.cell? ⟨g, 7, none⟩ = some (.slice yb mb.N.length sb) := fun s' => (s'.keeps.cell (p := ⟨g, 7, none⟩) lg).trans ((UU.out.cell (p := ⟨g, 7, none⟩) GG.out).trans j7)
  have i8 : ∀ s' : Od W1, s'.val.cell? ⟨g, 8, none⟩ = some (.slice zb mb.A.length tb) := fun s' => (s'.keeps.cell (p := ⟨g, 8, none⟩) lg).trans ((UU.out.cell (p := ⟨g, 8, none⟩) GG.out).trans j8)
  have i9 : ∀ s' : Od W1, s'.val.cell? ⟨g, 9, none⟩ = some (.slice xb nb cB) := fun s' => (s'.keeps.cell (p := ⟨g, 9, none⟩) lg).trans ((UU.out.cell (p := ⟨g, 9, none⟩) GG.out).trans j9)
  have hNe : Nonempty (Od W1) := ⟨⟨W1, Below.refl _ _⟩⟩
  clear q0 q1 q2 q3 q4 q5 m4 j0 j1 j2 j3 j4 j5 j6 j7 j8 j9 k0 lg
  refine wp_region_ut (.qs [0, 1, 2, 3, 4] (.one 5 (.one 6 (.qs [7, 8, 9, 10, 11] (.one 12 (.one 13 (.one 14 .nil))))))) (fun u => ∃ s' : Od W1, u = s'.val) (by kernel_rfl) (by kernel_rfl) ?_
  refine utL_qs ⟨⟨W1.drew, (Below.refl _ _).drew⟩, rfl⟩ ?_
  change wpQuiet _ _ _ _ [_, _, _, _, _] _
  repeat (go_big_quiet_step (fail))
  refine wpQuiet_nil ?_
  have HB := (Below.refl W1.heap.size W1).drew
  refine stepU_at (by rfl) fun K Q' hK => ?_
  go_simp
  refine (CC.out _ (UU.out.trans (HB.mono UU.out.size)) (QQ.out.below HB)).mono ?_
  rintro e u1 ⟨rfl, d⟩
  replace HB := HB.trans (d.mono HB.size)
  refine hK _ _ (fun _ => ⟨⟨_, HB⟩, rfl⟩) ?_
  clear hK d
  refine stepU_at (by rfl) fun K Q' hK => ?_
  go_simp
  refine hK _ _ (fun _ => ⟨⟨_, HB⟩, rfl⟩) ?_
  clear hK
  cases va
  · refine utL_qs ⟨⟨_, HB⟩, rfl⟩ ?_
    change wpQuiet _ _ _ _ [_, _, _, _, _] _
    repeat (go_big_quiet_step (fail))
    refine wpQuiet_nil ?_
    refine stepU_at (by rfl) fun K Q' hK => ?_
    go_simp
    refine (DD.out _ (UU.out.trans (HB.mono UU.out.size)) (QQ.out.below HB)).mono ?_
    rintro e u2 ⟨rfl, d⟩
    replace HB := HB.trans (d.mono HB.size)
    refine hK _ _ (fun _ => ⟨⟨_, HB⟩, rfl⟩) ?_
    clear hK d
    refine stepU_at (by rfl) fun K Q' hK => ?_
    go_simp
    refine hK _ _ (fun _ => ⟨⟨_, HB⟩, rfl⟩) ?_
    clear hK
    refine stepU_at (by rfl) fun K Q' hK => ?_
    go_simp
    refine hK _ _ (fun _ => ⟨⟨_, HB⟩, rfl⟩) ?_
    clear hK
    refine utL_nil ?_
    have B9 := hid (WW.out.trans (HB.mono WW.out.size))
    clear HB l0 l1 l2 l3 l4 l5 l6 hNe i0 i1 i2 i3 i4 i5 i6 i7 i8 i9
    go_wp2_with fail
    go_ret
    exact ⟨rfl, B9.out⟩
  · refine utL_qs ⟨⟨_, HB⟩, rfl⟩ ?_
    change wpQuiet _ _ _ _ [_, _, _, _, _] _
    repeat (go_big_quiet_step (fail))
    refine wpQuiet_nil ?_
    refine stepU_off (by rfl) ⟨⟨_, HB⟩, rfl⟩ ?_
    refine stepU_at (by rfl) fun K Q' hK => ?_
    go_simp
    refine hK _ _ (fun _ => ⟨⟨_, HB⟩, rfl⟩) ?_
    clear hK
    refine stepU_at (by rfl) fun K Q' hK => ?_
    go_simp
    refine hK _ _ (fun _ => ⟨⟨_, HB⟩, rfl⟩) ?_
    clear hK
    refine utL_nil ?_
    have B9 := hid (WW.out.trans (HB.mono WW.out.size))
    clear HB l0 l1 l2 l3 l4 l5 l6 hNe i0 i1 i2 i3 i4 i5 i6 i7 i8 i9
    go_wp2_with fail
    go_ret
    exact ⟨rfl, B9.out⟩

/-- What a tree of right nodes holds of. -/
theorem holds_any (q : Qy) {y z : Option Addr} {s t : Nat} (tr : T) : wf tr → HoldsC q tr y s z t := by
  induction tr with
  | leaf m => exact fun _ => holds_leaf q m
  | one m a ih => exact fun h => holds_one q m a (ih h.2)
  | two m a b ia ib =>
    intro h
    rcases takes_two h.1 with q9 | q9
    · exact holds_and q m a b q9 (ia h.2.1) (ib h.2.2)
    · exact holds_or q m a b q9 (ia h.2.1) (ib h.2.2)

end Go.Proofs.Ytnbabdfcamdapaa.Ru
