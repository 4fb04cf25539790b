/-
  The walk of package rule's plain, by the tree. Written by genrp.py.
-/
import Derived.Test.YtdkpdlkcloaoeaaRcHolds
import Derived.Test.YtdkpdlkcloaoeaaRcRow
namespace Go.Proofs.Ytdkpdlkcloaoeaa.Ru
open Go.RowKit Go.Deep

/-- A node of which only its Op says anything. -/
def litM (o : Int) : Mt := ⟨o, 0, [], []⟩

theorem lit_in (w : World) (o : Int) (h : -9223372036854775808 ≤ o ∧ o ≤ 9223372036854775807) : MeIn w ⟨litM o, none, 0, none, 0⟩ := ⟨⟨Nat.zero_le _, by simp [litM], fun s hs => by simp [litM] at hs, Or.inl rfl⟩, Bys.nil _ _ _, fun _ => rfl, ⟨h.1, h.2, by simp [litM], by simp [litM]⟩⟩

theorem lit_off (o : Option Nat) (k : Int) : MeOff o ⟨litM k, none, 0, none, 0⟩ := by refine ⟨?_, ?_⟩ <;> (intro a ha; simp at ha)

/-- Nodes that were just laid. -/
theorem cells_laid (L : List Me) (w : World) : ∀ j u, (L.flatMap mcells)[j]? = some u → (w.alloc (.cells (L.flatMap mcells).toArray 36)).cell? ((⟨w.heap.size, 0, none⟩ : Addr).add j) = some u := by
  intro j u hj
  rw [Go.WideShapes.add_plain, Nat.zero_add]
  exact (Bl.new 36 w (L.flatMap mcells).toArray).cell (by simpa using hj)

/-- What plain answers: the told ones, and some more. -/
def PlainP (B : Nat) (w : World) (v : Value) (ms : List Mt) (e : Ending) (w' : World) : Prop := ∃ v', e = .returned v' ∧ PRow B w' v' ms ∧ Gr w v v' w'

/-- What a call of plain answers. -/
def PlainC (tr : T) : Prop :=
  ∀ (n : Bool) (B : Nat) (P : Nat → Prop) (m : Mt) (y1 : Option Addr) (s1 : Nat) (z1 : Option Addr) (t1 : Nat) (x : Option Addr) (k c : Nat) (u w : World) (v : Value) (ms : List Mt), TIs u u P tr (tcells ⟨m, y1, s1, z1, t1⟩ x k c) → Below u.heap.size u w → u.heap.size ≤ B → B ≤ w.heap.size → wf tr → (∀ m ∈ flat tr, matchE m = 0) → PRow B w v ms → ms.length + (flat (pl tr n)).length ≤ 100000 →
    Calls Try.prog 11 #[.agg #[.int .i64 m.op, .int .i64 m.n, .slice y1 m.N.length s1, .slice z1 m.A.length t1, .slice x k c], v, .bool n] w (PlainP B w v (ms ++ flat (pl tr n)))

set_option maxHeartbeats 4000000 in
set_option maxRecDepth 100000 in
theorem plain_leaf (mm : Mt) : PlainC (.leaf mm) := by
  intro n B P m y1 s1 z1 t1 x k c u w v ms hT hu huB hB hw hE hr hl
  obtain ⟨e, x', c', rfl, he, hme⟩ := hT
  simp only [tcells, List.cons.injEq, and_true, Value.int.injEq, true_and, Value.slice.injEq] at he
  obtain ⟨e1, e2, ⟨rfl, e3, rfl⟩, ⟨rfl, e4, rfl⟩, rfl, rfl, rfl⟩ := he
  obtain ⟨⟨op, nn, N, A⟩, y1, s1, z1, t1⟩ := e
  simp only at *
  rw [e1, e2, e3, e4]
  clear e1 e2 e3 e4 m
  have hm0 : takes op = 0 := hw
  obtain ⟨d8, d9, d10⟩ := takes_none hm0
  have hm1 := hme.below hu
  have b1 := boxed 43 w #[.int .i64 op, .int .i64 nn, .slice y1 N.length s1, .slice z1 A.length t1, .slice x 0 c]
  have B2 := Bl.new 43 w #[.int .i64 op, .int .i64 nn, .slice y1 N.length s1, .slice z1 A.length t1, .slice x 0 c]
  obtain ⟨W1, hW⟩ : ∃ W1, w.alloc (.cells #[.int .i64 op, .int .i64 nn, .slice y1 N.length s1, .slice z1 A.length t1, .slice x 0 c] 43) = W1 := ⟨_, rfl⟩
  rw [hW] at b1 B2
  have HW := hid hW
  have R1 := hid (hr.stay b1)
  have G1 := hid (Gr.ahead b1 (Gr.refl W1 v))
  have F := hid (fmatch_any ⟨op, nn, N, A⟩ W1 (hm1.below b1).1 (hm1.below b1).2.1)
  have NUM := hid hm1.2.2.2
  have BS := hid hB
  obtain ⟨m0, m1, m2, m3, m4⟩ := bl5 B2
  clear hE hw hme hm1 hu b1 B2 hW hm0 hr
  cases n with
  | false =>
    have hl2 : ms.length + 1 ≤ 100000 := hl
    clear hl
    go_enter Try.func11, Try.ntmps11
    go_upto_region 1 with fail
    rw [HW.out]
    clear HW
    go_wp2_with fail
    go_loopw [1, 24] (fun vt vi wr => v = vt ∧ vi = .int .i64 0 ∧ W1 = wr) (fun _ _ _ => 0)
    case atStart => exact ⟨rfl, rfl, rfl⟩
    case round =>
      obtain ⟨rfl, rfl, rfl⟩ := hrel
      go_wp2_with fail
      refine F.out.mono ?_
      rintro e w2 ⟨y, s, z, t, rfl, hS, hD, hz, b2, f1, f2⟩
      have ME : MeIn w2 ⟨⟨op, nn, N, A⟩, y, s, z, t⟩ := ⟨hS, hD, hz, NUM.out⟩
      have OF : MeOff v.ownBlock ⟨⟨op, nn, N, A⟩, y, s, z, t⟩ := meOff_above (n := W1.heap.size) f1 f2 (fun k hk => (R1.out.own k hk).2)
      have R2 := R1.out.stay b2
      have G2 := G1.out.stay b2
      have b3 := boxed 36 w2 ([(⟨⟨op, nn, N, A⟩, y, s, z, t⟩ : Me)].flatMap mcells).toArray
      have Q3 := hid (cells_laid [(⟨⟨op, nn, N, A⟩, y, s, z, t⟩ : Me)] w2)
      have R3 := hid (R2.stay b3)
      have G3 := hid (G2.stay b3)
      have SZ : Hid (B ≤ (w2.alloc (.cells ([(⟨⟨op, nn, N, A⟩, y, s, z, t⟩ : Me)].flatMap mcells).toArray 36)).heap.size) := hid (by have := BS.out; have := G3.out.1.size; omega)
      have P3 : Hid (∀ e ∈ [(⟨⟨op, nn, N, A⟩, y, s, z, t⟩ : Me)], MeIn (w2.alloc (.cells ([(⟨⟨op, nn, N, A⟩, y, s, z, t⟩ : Me)].flatMap mcells).toArray 36)) e ∧ MeOff v.ownBlock e) := hid (fun e he => by rw [List.mem_singleton.1 he]; exact ⟨ME.below b3, OF⟩)
      clear ME OF hS hD hz b2 f1 f2 b3 R2 G2
      go_wp2_with (at_builtin; refine wpList_append_p [(⟨⟨op, nn, N, A⟩, y, s, z, t⟩ : Me)] rfl _ _ rfl rfl rfl R3.out rfl Q3.out P3.out (by omega) SZ.out ?_; intro v5 w5 r5 g5)
      have R5 := hid r5
      have G5 := hid (G3.out.trans g5)
      clear r5 g5 R3 G3 Q3 P3
      go_ret
      exact ⟨_, rfl, R5.out, G5.out⟩
  | true =>
    have hl2 : ms.length + 2 ≤ 100000 := hl
    clear hl
    go_enter Try.func11, Try.ntmps11
    go_upto_region 1 with fail
    rw [HW.out]
    clear HW
    go_wp2_with fail
    go_loopw [1, 24] (fun vt vi wr => v = vt ∧ vi = .int .i64 0 ∧ W1 = wr) (fun _ _ _ => 0)
    case atStart => exact ⟨rfl, rfl, rfl⟩
    case round =>
      obtain ⟨rfl, rfl, rfl⟩ := hrel
      go_wp2_with fail
      refine F.out.mono ?_
      rintro e w2 ⟨y, s, z, t, rfl, hS, hD, hz, b2, f1, f2⟩
      have ME : MeIn w2 ⟨⟨op, nn, N, A⟩, y, s, z, t⟩ := ⟨hS, hD, hz, NUM.out⟩
      have OF : MeOff v.ownBlock ⟨⟨op, nn, N, A⟩, y, s, z, t⟩ := meOff_above (n := W1.heap.size) f1 f2 (fun k hk => (R1.out.own k hk).2)
      have R2 := R1.out.stay b2
      have G2 := G1.out.stay b2
      have b3 := boxed 36 w2 ([(⟨⟨op, nn, N, A⟩, y, s, z, t⟩ : Me), ⟨litM 8, none, 0, none, 0⟩].flatMap mcells).toArray
      have Q3 := hid (cells_laid [(⟨⟨op, nn, N, A⟩, y, s, z, t⟩ : Me), ⟨litM 8, none, 0, none, 0⟩] w2)
      have R3 := hid (R2.stay b3)
      have G3 := hid (G2.stay b3)
      have SZ : Hid (B ≤ (w2.alloc (.cells ([(⟨⟨op, nn, N, A⟩, y, s, z, t⟩ : Me), ⟨litM 8, none, 0, none, 0⟩].flatMap mcells).toArray 36)).heap.size) := hid (by have := BS.out; have := G3.out.1.size; omega)
      have P3 : Hid (∀ e ∈ [(⟨⟨op, nn, N, A⟩, y, s, z, t⟩ : Me), ⟨litM 8, none, 0, none, 0⟩], MeIn (w2.alloc (.cells ([(⟨⟨op, nn, N, A⟩, y, s, z, t⟩ : Me), ⟨litM 8, none, 0, none, 0⟩].flatMap mcells).toArray 36)) e ∧ MeOff v.ownBlock e) := hid (fun e he => by
        rcases List.mem_cons.1 he with rfl | he
        · exact ⟨ME.below b3, OF⟩
        · rw [List.mem_singleton.1 he]; exact ⟨lit_in _ _ (by decide), lit_off _ _⟩)
      clear ME OF hS hD hz b2 f1 f2 b3 R2 G2
      go_wp2_with (at_builtin; refine wpList_append_p [(⟨⟨op, nn, N, A⟩, y, s, z, t⟩ : Me), ⟨litM 8, none, 0, none, 0⟩] rfl _ _ rfl rfl rfl R3.out rfl Q3.out P3.out (by omega) SZ.out ?_; intro v5 w5 r5 g5)
      have R5 := hid r5
      have G5 := hid (G3.out.trans g5)
      clear r5 g5 R3 G3 Q3 P3
      go_ret
      exact ⟨_, rfl, R5.out, G5.out⟩

set_option maxHeartbeats 4000000 in
set_option maxRecDepth 100000 in
theorem plain_one (mm : Mt) (a : T) (ih : PlainC a) : PlainC (.one mm a) := by
  intro n B P m y1 s1 z1 t1 x k c u w v ms hT hu huB hB hw hE hr hl
  obtain ⟨e, g, c', ca, rfl, he, hme, hg, hPg, hc, hcs, ha⟩ := hT
  obtain ⟨ea, xa, na, cA, rfl⟩ := ha.form
  simp only [tcells, List.cons.injEq, and_true, Value.int.injEq, true_and, Value.slice.injEq] at he
  obtain ⟨e1, e2, ⟨rfl, e3, rfl⟩, ⟨rfl, e4, rfl⟩, rfl, rfl, rfl⟩ := he
  obtain ⟨⟨op, nn, N, A⟩, y1, s1, z1, t1⟩ := e
  obtain ⟨ma, ya, sa, za, ta⟩ := ea
  simp only at *
  have h8 : op = 8 := takes_one hw.1
  subst h8
  rw [e1, e2, e3, e4]
  clear e1 e2 e3 e4 m hme
  have b1 := boxed 43 w #[.int .i64 8, .int .i64 nn, .slice y1 N.length s1, .slice z1 A.length t1, .slice (some ⟨g, 0, none⟩) 1 c]
  have B2 := Bl.new 43 w #[.int .i64 8, .int .i64 nn, .slice y1 N.length s1, .slice z1 A.length t1, .slice (some ⟨g, 0, none⟩) 1 c]
  obtain ⟨W1, hW⟩ : ∃ W1, w.alloc (.cells #[.int .i64 8, .int .i64 nn, .slice y1 N.length s1, .slice z1 A.length t1, .slice (some ⟨g, 0, none⟩) 1 c] 43) = W1 := ⟨_, rfl⟩
  rw [hW] at b1 B2
  have HW := hid hW
  have UU := hu.trans (b1.mono hu.size)
  have CC := hid (ih (!n) B P ma ya sa za ta xa na cA u W1 v ms ha UU huB (Nat.le_trans hB b1.size) hw.2 (fun m hm => hE m (by unfold flat; exact List.mem_append_left _ hm)) (hr.stay b1) hl)
  have BB := hid b1
  have j0 := (UU.cell (p := ⟨g, 0, none⟩) hg).trans (hcs 0 _ rfl)
  have j1 := (UU.cell (p := ⟨g, 1, none⟩) hg).trans (hcs 1 _ rfl)
  have j2 := (UU.cell (p := ⟨g, 2, none⟩) hg).trans (hcs 2 _ rfl)
  have j3 := (UU.cell (p := ⟨g, 3, none⟩) hg).trans (hcs 3 _ rfl)
  have j4 := (UU.cell (p := ⟨g, 4, none⟩) hg).trans (hcs 4 _ rfl)
  obtain ⟨m0, m1, m2, m3, m4⟩ := bl5 B2
  clear hE hw hu b1 B2 hW hr hl UU hcs ha ih
  go_enter Try.func11, Try.ntmps11
  go_upto_region 1 with fail
  rw [HW.out]
  clear HW
  go_wp2_with fail
  refine CC.out.mono ?_
  rintro e w2 ⟨v2, rfl, r2, g2⟩
  have R2 := hid r2
  have G2 := hid (Gr.ahead BB.out g2)
  clear r2 g2 CC
  go_wp2_with fail
  go_ret
  exact ⟨_, rfl, R2.out, G2.out⟩

theorem flip_lit {m : Mt} (h : m.op = 9 ∨ m.op = 10) (k : matchE m = 0) : flip m = litM (19 - m.op) := by
  obtain ⟨o, n, N, A⟩ := m
  simp only at h
  unfold matchE at k
  simp only at k
  rw [if_neg (by omega)] at k
  have h4 : n = 0 ∧ N = [] ∧ A = [] := by
    by_cases q : (¬ (o = 3 ∨ o = 4 ∨ o = 5 ∨ o = 7) ∧ ¬ n = 0) ∨ (¬ o = 2 ∧ 0 < N.length) ∨ (¬ o = 7 ∧ 0 < A.length)
    · rw [if_pos q] at k; cases k
    · refine ⟨by omega, List.length_eq_zero_iff.1 (by omega), List.length_eq_zero_iff.1 (by omega)⟩
  obtain ⟨rfl, rfl, rfl⟩ := h4
  unfold flip litM
  rcases h with rfl | rfl <;> simp

/-- What is told so far. -/
def PlRel (B : Nat) (ms fa fb : List Mt) (W1 : World) (v vt vi : Value) (wr : World) : Prop :=
  (vi = .int .i64 0 ∧ PRow B wr vt ms ∧ Gr W1 v vt wr) ∨ (vi = .int .i64 1 ∧ PRow B wr vt (ms ++ fa) ∧ Gr W1 v vt wr) ∨ (vi = .int .i64 2 ∧ PRow B wr vt (ms ++ fa ++ fb) ∧ Gr W1 v vt wr)

set_option maxHeartbeats 4000000 in
set_option maxRecDepth 100000 in
theorem plain_and (mm : Mt) (a b : T) (h9 : mm.op = 9) (ia : PlainC a) (ib : PlainC b) : PlainC (.two mm a b) := by
  intro n B P m y1 s1 z1 t1 x k c u w v ms hT hu huB hB hw hE hr hl
  obtain ⟨e, g, c', ca, cb, rfl, he, hme, hg, hPg, hc, hcs, ha, hb⟩ := hT
  obtain ⟨ea, xa, na, cA, rfl⟩ := ha.form
  obtain ⟨eb, xb, nb, cB, rfl⟩ := hb.form
  simp only [tcells, List.cons.injEq, and_true, Value.int.injEq, true_and, Value.slice.injEq] at he
  obtain ⟨e1, e2, ⟨rfl, e3, rfl⟩, ⟨rfl, e4, rfl⟩, rfl, rfl, rfl⟩ := he
  obtain ⟨⟨op, nn, N, A⟩, y1, s1, z1, t1⟩ := e
  obtain ⟨ma, ya, sa, za, ta⟩ := ea
  obtain ⟨mb, yb, sb, zb, tb⟩ := eb
  simp only at *
  subst h9
  rw [e1, e2, e3, e4]
  clear e1 e2 e3 e4 m
  have hme0 : matchE ⟨9, nn, N, A⟩ = 0 := hE _ (by unfold flat; exact List.mem_append_right _ List.mem_cons_self)
  have FL := hid (flip_lit (m := ⟨9, nn, N, A⟩) (by simp) hme0)
  have EF : Hid (flat (pl (.two ⟨9, nn, N, A⟩ a b) n) = flat (pl a n) ++ flat (pl b n) ++ [if n then flip ⟨9, nn, N, A⟩ else ⟨9, nn, N, A⟩]) := hid rfl
  obtain ⟨fa, hfa⟩ : ∃ fa, flat (pl a n) = fa := ⟨_, rfl⟩
  obtain ⟨fb, hfb⟩ : ∃ fb, flat (pl b n) = fb := ⟨_, rfl⟩
  rw [hfa, hfb] at EF
  rw [EF.out] at hl ⊢
  clear EF
  obtain ⟨mr, hmr⟩ : ∃ mr, ms ++ (fa ++ fb ++ [if n then flip ⟨9, nn, N, A⟩ else ⟨9, nn, N, A⟩]) = mr := ⟨_, rfl⟩
  rw [hmr]
  have HM : Hid (ms ++ fa ++ fb ++ [if n then flip ⟨9, nn, N, A⟩ else ⟨9, nn, N, A⟩] = mr) := hid (by rw [← hmr]; simp)
  clear hmr
  have hl2 : ms.length + fa.length + fb.length + 1 ≤ 100000 := by simp only [List.length_append, List.length_singleton] at hl; omega
  have CA := hid (fun (wx : World) (vx : Value) (hx : Below u.heap.size u wx) (hBx : B ≤ wx.heap.size) (hrx : PRow B wx vx ms) => ia n B P ma ya sa za ta xa na cA u wx vx ms ha hx huB hBx hw.2.1 (fun m hm => hE m (by unfold flat; exact List.mem_append_left _ (List.mem_append_left _ hm))) hrx (by rw [hfa]; omega))
  have CB := hid (fun (wx : World) (vx : Value) (hx : Below u.heap.size u wx) (hBx : B ≤ wx.heap.size) (hrx : PRow B wx vx (ms ++ fa)) => ib n B P mb yb sb zb tb xb nb cB u wx vx (ms ++ fa) hb hx huB hBx hw.2.2 (fun m hm => hE m (by unfold flat; exact List.mem_append_left _ (List.mem_append_right _ hm))) hrx (by rw [hfb, List.length_append]; omega))
  rw [hfa] at CA
  rw [hfb] at CB
  have b1 := boxed 43 w #[.int .i64 9, .int .i64 nn, .slice y1 N.length s1, .slice z1 A.length t1, .slice (some ⟨g, 0, none⟩) 2 c]
  have B2 := Bl.new 43 w #[.int .i64 9, .int .i64 nn, .slice y1 N.length s1, .slice z1 A.length t1, .slice (some ⟨g, 0, none⟩) 2 c]
  obtain ⟨W1, hW⟩ : ∃ W1, w.alloc (.cells #[.int .i64 9, .int .i64 nn, .slice y1 N.length s1, .slice z1 A.length t1, .slice (some ⟨g, 0, none⟩) 2 c] 43) = W1 := ⟨_, rfl⟩
  rw [hW] at b1 B2
  have HW := hid hW
  have UU := hid (hu.trans (b1.mono hu.size))
  have R1 := hr.stay b1
  have BW := hid b1
  have HG := hid hg
  have HO := hid hr.own
  have HUB := hid huB
  have BS := hid (Nat.le_trans hB b1.size)
  have KB := hid B2
  have ME0 := hid hme
  have NUM := hid hme.2.2.2
  have BK := hid (fun (wr : World) (vt : Value) (h : Gr W1 v vt wr) => ((UU.out.trans ((h.low BS.out (fun k hk => (hr.own k hk).1)).mono huB) : Below u.heap.size u wr)))
  have j0 := hcs 0 _ rfl
  have j1 := hcs 1 _ rfl
  have j2 := hcs 2 _ rfl
  have j3 := hcs 3 _ rfl
  have j4 := hcs 4 _ rfl
  have j5 := hcs 5 _ rfl
  have j6 := hcs 6 _ rfl
  have j7 := hcs 7 _ rfl
  have j8 := hcs 8 _ rfl
  have j9 := hcs 9 _ rfl
  obtain ⟨m0, m1, m2, m3, m4⟩ := bl5 B2
  clear hE hw hu b1 B2 hW hr hl hcs ha hb ia ib hme hme0
  go_enter Try.func11, Try.ntmps11
  go_upto_region 1 with fail
  rw [HW.out]
  clear HW
  go_wp2_with fail
  go_loopw [1, 24] (fun vt vi wr => PlRel B ms fa fb W1 v vt vi wr) (fun _ i _ => 2 - (intOf i).toNat)
  case atStart => exact Or.inl ⟨rfl, R1, Gr.refl _ _⟩
  case round =>
    clear R1 m0 m1 m2 m3 m4
    rcases hrel with ⟨rfl, hrow, hgr⟩ | ⟨rfl, hrow, hgr⟩ | ⟨rfl, hrow, hgr⟩
    · have UR := BK.out _ _ hgr
      have i0 := (UR.cell (p := ⟨g, 0, none⟩) HG.out).trans j0
      have i1 := (UR.cell (p := ⟨g, 1, none⟩) HG.out).trans j1
      have i2 := (UR.cell (p := ⟨g, 2, none⟩) HG.out).trans j2
      have i3 := (UR.cell (p := ⟨g, 3, none⟩) HG.out).trans j3
      have i4 := (UR.cell (p := ⟨g, 4, none⟩) HG.out).trans j4
      have b2 := boxed 43 wr #[.int .i64 ma.op, .int .i64 ma.n, .slice ya ma.N.length sa, .slice za ma.A.length ta, .slice xa na cA]
      have K2 := Bl.new 43 wr #[.int .i64 ma.op, .int .i64 ma.n, .slice ya ma.N.length sa, .slice za ma.A.length ta, .slice xa na cA]
      obtain ⟨W2, hW2⟩ : ∃ W2, wr.alloc (.cells #[.int .i64 ma.op, .int .i64 ma.n, .slice ya ma.N.length sa, .slice za ma.A.length ta, .slice xa na cA] 43) = W2 := ⟨_, rfl⟩
      rw [hW2] at b2 K2
      have HW2 := hid hW2
      have CX := hid (CA.out W2 _ (UR.trans (b2.mono UR.size)) (by have := hgr.1.size; have := b2.size; have := BS.out; omega) (hrow.stay b2))
      have G1 := hid (hgr.stay b2)
      obtain ⟨n0, n1, n2, n3, n4⟩ := bl5 K2
      clear UR b2 K2 hW2 hgr hrow j0 j1 j2 j3 j4 j5 j6 j7 j8 j9 CA CB
      go_upto_region 6 with fail
      rw [HW2.out]
      clear HW2 i0 i1 i2 i3 i4
      go_wp2_with fail
      refine CX.out.mono ?_
      rintro e w2 ⟨v2, rfl, r2, g2⟩
      have R2 := hid r2
      have G2 := hid (G1.out.trans g2)
      clear r2 g2 CX G1 n0 n1 n2 n3 n4
      go_wp2_with fail
      exact ⟨Or.inr (Or.inl ⟨rfl, R2.out, G2.out⟩), by simp [intOf]⟩
    · have UR := BK.out _ _ hgr
      have i0 := (UR.cell (p := ⟨g, 5, none⟩) HG.out).trans j5
      have i1 := (UR.cell (p := ⟨g, 6, none⟩) HG.out).trans j6
      have i2 := (UR.cell (p := ⟨g, 7, none⟩) HG.out).trans j7
      have i3 := (UR.cell (p := ⟨g, 8, none⟩) HG.out).trans j8
      have i4 := (UR.cell (p := ⟨g, 9, none⟩) HG.out).trans j9
      have b2 := boxed 43 wr #[.int .i64 mb.op, .int .i64 mb.n, .slice yb mb.N.length sb, .slice zb mb.A.length tb, .slice xb nb cB]
      have K2 := Bl.new 43 wr #[.int .i64 mb.op, .int .i64 mb.n, .slice yb mb.N.length sb, .slice zb mb.A.length tb, .slice xb nb cB]
      obtain ⟨W2, hW2⟩ : ∃ W2, wr.alloc (.cells #[.int .i64 mb.op, .int .i64 mb.n, .slice yb mb.N.length sb, .slice zb mb.A.length tb, .slice xb nb cB] 43) = W2 := ⟨_, rfl⟩
      rw [hW2] at b2 K2
      have HW2 := hid hW2
      have CX := hid (CB.out W2 _ (UR.trans (b2.mono UR.size)) (by have := hgr.1.size; have := b2.size; have := BS.out; omega) (hrow.stay b2))
      have G1 := hid (hgr.stay b2)
      obtain ⟨n0, n1, n2, n3, n4⟩ := bl5 K2
      clear UR b2 K2 hW2 hgr hrow j0 j1 j2 j3 j4 j5 j6 j7 j8 j9 CA CB
      go_upto_region 6 with fail
      rw [HW2.out]
      clear HW2 i0 i1 i2 i3 i4
      go_wp2_with fail
      refine CX.out.mono ?_
      rintro e w2 ⟨v2, rfl, r2, g2⟩
      have R2 := hid r2
      have G2 := hid (G1.out.trans g2)
      clear r2 g2 CX G1 n0 n1 n2 n3 n4
      go_wp2_with fail
      exact ⟨Or.inr (Or.inr ⟨rfl, R2.out, G2.out⟩), by simp [intOf]⟩
    · have hne : some w.heap.size ≠ v.ownBlock := fun q => by have := (HO.out _ q.symm).2; omega
      have K1 := hid (hgr.bl KB.out hne)
      have R1 := hid hrow
      have G1 := hid (Gr.ahead BW.out hgr)
      have UR := BK.out _ _ hgr
      have F := hid (fmatch_any ⟨9, nn, N, A⟩ wr (ME0.out.below UR).1 (ME0.out.below UR).2.1)
      replace BS : Hid (B ≤ wr.heap.size) := hid (by have := hgr.1.size; have := BS.out; omega)
      obtain ⟨m0, m1, m2, m3, m4⟩ := bl5 K1.out
      have hll : (ms ++ fa ++ fb).length + 1 ≤ 100000 := by simp only [List.length_append]; omega
      clear hgr hrow UR hne j0 j1 j2 j3 j4 j5 j6 j7 j8 j9 CA CB hl2
      generalize ms ++ fa ++ fb = mz at *
      cases n with
      | false =>
        replace HM : Hid (mz ++ [(⟨9, nn, N, A⟩ : Mt)] = mr) := hid HM.out
        go_wp2_with fail
        refine F.out.mono ?_
        rintro e w2 ⟨y, s, z, t, rfl, hS, hD, hz, b2, f1, f2⟩
        have ME : MeIn w2 ⟨⟨9, nn, N, A⟩, y, s, z, t⟩ := ⟨hS, hD, hz, NUM.out⟩
        have OF : MeOff u1.ownBlock ⟨⟨9, nn, N, A⟩, y, s, z, t⟩ := meOff_above (n := wr.heap.size) f1 f2 (fun k hk => (R1.out.own k hk).2)
        have R2 := R1.out.stay b2
        have G2 := G1.out.stay b2
        have b3 := boxed 36 w2 ([(⟨⟨9, nn, N, A⟩, y, s, z, t⟩ : Me)].flatMap mcells).toArray
        have Q3 := hid (cells_laid [(⟨⟨9, nn, N, A⟩, y, s, z, t⟩ : Me)] w2)
        have R3 := hid (R2.stay b3)
        have G3 := hid (G2.stay b3)
        have SZ : Hid (B ≤ (w2.alloc (.cells ([(⟨⟨9, nn, N, A⟩, y, s, z, t⟩ : Me)].flatMap mcells).toArray 36)).heap.size) := hid (by have := BS.out; have := G3.out.1.size; omega)
        have P3 : Hid (∀ e ∈ [(⟨⟨9, nn, N, A⟩, y, s, z, t⟩ : Me)], MeIn (w2.alloc (.cells ([(⟨⟨9, nn, N, A⟩, y, s, z, t⟩ : Me)].flatMap mcells).toArray 36)) e ∧ MeOff u1.ownBlock e) := hid (fun e he => by rw [List.mem_singleton.1 he]; exact ⟨ME.below b3, OF⟩)
        clear ME OF hS hD hz b2 f1 f2 b3 R2 G2
        go_wp2_with (at_builtin; refine wpList_append_p [(⟨⟨9, nn, N, A⟩, y, s, z, t⟩ : Me)] rfl _ _ rfl rfl rfl R3.out rfl Q3.out P3.out (by omega) SZ.out ?_; intro v5 w5 r5 g5)
        have R5 := hid r5
        have G5 := hid (G3.out.trans g5)
        clear r5 g5 R3 G3 Q3 P3
        go_ret
        refine ⟨_, rfl, ?_, G5.out⟩
        rw [← HM.out]
        exact R5.out
      | true =>
        replace HM : Hid (mz ++ [litM 10] = mr) := hid (by have h := HM.out; rw [if_pos rfl, FL.out] at h; exact h)
        clear F FL
        have R2 := R1.out
        have G2 := G1.out
        have b3 := boxed 36 wr ([(⟨litM 10, none, 0, none, 0⟩ : Me)].flatMap mcells).toArray
        have Q3 := hid (cells_laid [(⟨litM 10, none, 0, none, 0⟩ : Me)] wr)
        have R3 := hid (R2.stay b3)
        have G3 := hid (G2.stay b3)
        have SZ : Hid (B ≤ (wr.alloc (.cells ([(⟨litM 10, none, 0, none, 0⟩ : Me)].flatMap mcells).toArray 36)).heap.size) := hid (by have := BS.out; have := G3.out.1.size; omega)
        have P3 : Hid (∀ e ∈ [(⟨litM 10, none, 0, none, 0⟩ : Me)], MeIn (wr.alloc (.cells ([(⟨litM 10, none, 0, none, 0⟩ : Me)].flatMap mcells).toArray 36)) e ∧ MeOff u1.ownBlock e) := hid (fun e he => by rw [List.mem_singleton.1 he]; exact ⟨lit_in _ _ (by decide), lit_off _ _⟩)
        clear  b3 R2 G2
        go_wp2_with (at_builtin; refine wpList_append_p [(⟨litM 10, none, 0, none, 0⟩ : Me)] rfl _ _ rfl rfl rfl R3.out rfl Q3.out P3.out (by omega) SZ.out ?_; intro v5 w5 r5 g5)
        have R5 := hid r5
        have G5 := hid (G3.out.trans g5)
        clear r5 g5 R3 G3 Q3 P3
        go_ret
        refine ⟨_, rfl, ?_, G5.out⟩
        rw [← HM.out]
        exact R5.out
set_option maxHeartbeats 4000000 in
set_option maxRecDepth 100000 in
theorem plain_or (mm : Mt) (a b : T) (h9 : mm.op = 10) (ia : PlainC a) (ib : PlainC b) : PlainC (.two mm a b) := by
  intro n B P m y1 s1 z1 t1 x k c u w v ms hT hu huB hB hw hE hr hl
  obtain ⟨e, g, c', ca, cb, rfl, he, hme, hg, hPg, hc, hcs, ha, hb⟩ := hT
  obtain ⟨ea, xa, na, cA, rfl⟩ := ha.form
  obtain ⟨eb, xb, nb, cB, rfl⟩ := hb.form
  simp only [tcells, List.cons.injEq, and_true, Value.int.injEq, true_and, Value.slice.injEq] at he
  obtain ⟨e1, e2, ⟨rfl, e3, rfl⟩, ⟨rfl, e4, rfl⟩, rfl, rfl, rfl⟩ := he
  obtain ⟨⟨op, nn, N, A⟩, y1, s1, z1, t1⟩ := e
  obtain ⟨ma, ya, sa, za, ta⟩ := ea
  obtain ⟨mb, yb, sb, zb, tb⟩ := eb
  simp only at *
  subst h9
  rw [e1, e2, e3, e4]
  clear e1 e2 e3 e4 m
  have hme0 : matchE ⟨10, nn, N, A⟩ = 0 := hE _ (by unfold flat; exact List.mem_append_right _ List.mem_cons_self)
  have FL := hid (flip_lit (m := ⟨10, nn, N, A⟩) (by simp) hme0)
  have EF : Hid (flat (pl (.two ⟨10, nn, N, A⟩ a b) n) = flat (pl a n) ++ flat (pl b n) ++ [if n then flip ⟨10, nn, N, A⟩ else ⟨10, nn, N, A⟩]) := hid rfl
  obtain ⟨fa, hfa⟩ : ∃ fa, flat (pl a n) = fa := ⟨_, rfl⟩
  obtain ⟨fb, hfb⟩ : ∃ fb, flat (pl b n) = fb := ⟨_, rfl⟩
  rw [hfa, hfb] at EF
  rw [EF.out] at hl ⊢
  clear EF
  obtain ⟨mr, hmr⟩ : ∃ mr, ms ++ (fa ++ fb ++ [if n then flip ⟨10, nn, N, A⟩ else ⟨10, nn, N, A⟩]) = mr := ⟨_, rfl⟩
  rw [hmr]
  have HM : Hid (ms ++ fa ++ fb ++ [if n then flip ⟨10, nn, N, A⟩ else ⟨10, nn, N, A⟩] = mr) := hid (by rw [← hmr]; simp)
  clear hmr
  have hl2 : ms.length + fa.length + fb.length + 1 ≤ 100000 := by simp only [List.length_append, List.length_singleton] at hl; omega
  have CA := hid (fun (wx : World) (vx : Value) (hx : Below u.heap.size u wx) (hBx : B ≤ wx.heap.size) (hrx : PRow B wx vx ms) => ia n B P ma ya sa za ta xa na cA u wx vx ms ha hx huB hBx hw.2.1 (fun m hm => hE m (by unfold flat; exact List.mem_append_left _ (List.mem_append_left _ hm))) hrx (by rw [hfa]; omega))
  have CB := hid (fun (wx : World) (vx : Value) (hx : Below u.heap.size u wx) (hBx : B ≤ wx.heap.size) (hrx : PRow B wx vx (ms ++ fa)) => ib n B P mb yb sb zb tb xb nb cB u wx vx (ms ++ fa) hb hx huB hBx hw.2.2 (fun m hm => hE m (by unfold flat; exact List.mem_append_left _ (List.mem_append_right _ hm))) hrx (by rw [hfb, List.length_append]; omega))
  rw [hfa] at CA
  rw [hfb] at CB
  have b1 := boxed 43 w #[.int .i64 10, .int .i64 nn, .slice y1 N.length s1, .slice z1 A.length t1, .slice (some ⟨g, 0, none⟩) 2 c]
  have B2 := Bl.new 43 w #[.int .i64 10, .int .i64 nn, .slice y1 N.length s1, .slice z1 A.length t1, .slice (some ⟨g, 0, none⟩) 2 c]
  obtain ⟨W1, hW⟩ : ∃ W1, w.alloc (.cells #[.int .i64 10, .int .i64 nn, .slice y1 N.length s1, .slice z1 A.length t1, .slice (some ⟨g, 0, none⟩) 2 c] 43) = W1 := ⟨_, rfl⟩
  rw [hW] at b1 B2
  have HW := hid hW
  have UU := hid (hu.trans (b1.mono hu.size))
  have R1 := hr.stay b1
  have BW := hid b1
  have HG := hid hg
  have HO := hid hr.own
  have HUB := hid huB
  have BS := hid (Nat.le_trans hB b1.size)
  have KB := hid B2
  have ME0 := hid hme
  have NUM := hid hme.2.2.2
  have BK := hid (fun (wr : World) (vt : Value) (h : Gr W1 v vt wr) => ((UU.out.trans ((h.low BS.out (fun k hk => (hr.own k hk).1)).mono huB) : Below u.heap.size u wr)))
  have j0 := hcs 0 _ rfl
  have j1 := hcs 1 _ rfl
  have j2 := hcs 2 _ rfl
  have j3 := hcs 3 _ rfl
  have j4 := hcs 4 _ rfl
  have j5 := hcs 5 _ rfl
  have j6 := hcs 6 _ rfl
  have j7 := hcs 7 _ rfl
  have j8 := hcs 8 _ rfl
  have j9 := hcs 9 _ rfl
  obtain ⟨m0, m1, m2, m3, m4⟩ := bl5 B2
  clear hE hw hu b1 B2 hW hr hl hcs ha hb ia ib hme hme0
  go_enter Try.func11, Try.ntmps11
  go_upto_region 1 with fail
  rw [HW.out]
  clear HW
  go_wp2_with fail
  go_loopw [1, 24] (fun vt vi wr => PlRel B ms fa fb W1 v vt vi wr) (fun _ i _ => 2 - (intOf i).toNat)
  case atStart => exact Or.inl ⟨rfl, R1, Gr.refl _ _⟩
  case round =>
    clear R1 m0 m1 m2 m3 m4
    rcases hrel with ⟨rfl, hrow, hgr⟩ | ⟨rfl, hrow, hgr⟩ | ⟨rfl, hrow, hgr⟩
    · have UR := BK.out _ _ hgr
      have i0 := (UR.cell (p := ⟨g, 0, none⟩) HG.out).trans j0
      have i1 := (UR.cell (p := ⟨g, 1, none⟩) HG.out).trans j1
      have i2 := (UR.cell (p := ⟨g, 2, none⟩) HG.out).trans j2
      have i3 := (UR.cell (p := ⟨g, 3, none⟩) HG.out).trans j3
      have i4 := (UR.cell (p := ⟨g, 4, none⟩) HG.out).trans j4
      have b2 := boxed 43 wr #[.int .i64 ma.op, .int .i64 ma.n, .slice ya ma.N.length sa, .slice za ma.A.length ta, .slice xa na cA]
      have K2 := Bl.new 43 wr #[.int .i64 ma.op, .int .i64 ma.n, .slice ya ma.N.length sa, .slice za ma.A.length ta, .slice xa na cA]
      obtain ⟨W2, hW2⟩ : ∃ W2, wr.alloc (.cells #[.int .i64 ma.op, .int .i64 ma.n, .slice ya ma.N.length sa, .slice za ma.A.length ta, .slice xa na cA] 43) = W2 := ⟨_, rfl⟩
      rw [hW2] at b2 K2
      have HW2 := hid hW2
      have CX := hid (CA.out W2 _ (UR.trans (b2.mono UR.size)) (by have := hgr.1.size; have := b2.size; have := BS.out; omega) (hrow.stay b2))
      have G1 := hid (hgr.stay b2)
      obtain ⟨n0, n1, n2, n3, n4⟩ := bl5 K2
      clear UR b2 K2 hW2 hgr hrow j0 j1 j2 j3 j4 j5 j6 j7 j8 j9 CA CB
      go_upto_region 6 with fail
      rw [HW2.out]
      clear HW2 i0 i1 i2 i3 i4
      go_wp2_with fail
      refine CX.out.mono ?_
      rintro e w2 ⟨v2, rfl, r2, g2⟩
      have R2 := hid r2
      have G2 := hid (G1.out.trans g2)
      clear r2 g2 CX G1 n0 n1 n2 n3 n4
      go_wp2_with fail
      exact ⟨Or.inr (Or.inl ⟨rfl, R2.out, G2.out⟩), by simp [intOf]⟩
    · have UR := BK.out _ _ hgr
      have i0 := (UR.cell (p := ⟨g, 5, none⟩) HG.out).trans j5
      have i1 := (UR.cell (p := ⟨g, 6, none⟩) HG.out).trans j6
      have i2 := (UR.cell (p := ⟨g, 7, none⟩) HG.out).trans j7
      have i3 := (UR.cell (p := ⟨g, 8, none⟩) HG.out).trans j8
      have i4 := (UR.cell (p := ⟨g, 9, none⟩) HG.out).trans j9
      have b2 := boxed 43 wr #[.int .i64 mb.op, .int .i64 mb.n, .slice yb mb.N.length sb, .slice zb mb.A.length tb, .slice xb nb cB]
      have K2 := Bl.new 43 wr #[.int .i64 mb.op, .int .i64 mb.n, .slice yb mb.N.length sb, .slice zb mb.A.length tb, .slice xb nb cB]
      obtain ⟨W2, hW2⟩ : ∃ W2, wr.alloc (.cells #[.int .i64 mb.op, .int .i64 mb.n, .slice yb mb.N.length sb, .slice zb mb.A.length tb, .slice xb nb cB] 43) = W2 := ⟨_, rfl⟩
      rw [hW2] at b2 K2
      have HW2 := hid hW2
      have CX := hid (CB.out W2 _ (UR.trans (b2.mono UR.size)) (by have := hgr.1.size; have := b2.size; have := BS.out; omega) (hrow.stay b2))
      have G1 := hid (hgr.stay b2)
      obtain ⟨n0, n1, n2, n3, n4⟩ := bl5 K2
      clear UR b2 K2 hW2 hgr hrow j0 j1 j2 j3 j4 j5 j6 j7 j8 j9 CA CB
      go_upto_region 6 with fail
      rw [HW2.out]
      clear HW2 i0 i1 i2 i3 i4
      go_wp2_with fail
      refine CX.out.mono ?_
      rintro e w2 ⟨v2, rfl, r2, g2⟩
      have R2 := hid r2
      have G2 := hid (G1.out.trans g2)
      clear r2 g2 CX G1 n0 n1 n2 n3 n4
      go_wp2_with fail
      exact ⟨Or.inr (Or.inr ⟨rfl, R2.out, G2.out⟩), by simp [intOf]⟩
    · have hne : some w.heap.size ≠ v.ownBlock := fun q => by have := (HO.out _ q.symm).2; omega
      have K1 := hid (hgr.bl KB.out hne)
      have R1 := hid hrow
      have G1 := hid (Gr.ahead BW.out hgr)
      have UR := BK.out _ _ hgr
      have F := hid (fmatch_any ⟨10, nn, N, A⟩ wr (ME0.out.below UR).1 (ME0.out.below UR).2.1)
      replace BS : Hid (B ≤ wr.heap.size) := hid (by have := hgr.1.size; have := BS.out; omega)
      obtain ⟨m0, m1, m2, m3, m4⟩ := bl5 K1.out
      have hll : (ms ++ fa ++ fb).length + 1 ≤ 100000 := by simp only [List.length_append]; omega
      clear hgr hrow UR hne j0 j1 j2 j3 j4 j5 j6 j7 j8 j9 CA CB hl2
      generalize ms ++ fa ++ fb = mz at *
      cases n with
      | false =>
        replace HM : Hid (mz ++ [(⟨10, nn, N, A⟩ : Mt)] = mr) := hid HM.out
        go_wp2_with fail
        refine F.out.mono ?_
        rintro e w2 ⟨y, s, z, t, rfl, hS, hD, hz, b2, f1, f2⟩
        have ME : MeIn w2 ⟨⟨10, nn, N, A⟩, y, s, z, t⟩ := ⟨hS, hD, hz, NUM.out⟩
        have OF : MeOff u1.ownBlock ⟨⟨10, nn, N, A⟩, y, s, z, t⟩ := meOff_above (n := wr.heap.size) f1 f2 (fun k hk => (R1.out.own k hk).2)
        have R2 := R1.out.stay b2
        have G2 := G1.out.stay b2
        have b3 := boxed 36 w2 ([(⟨⟨10, nn, N, A⟩, y, s, z, t⟩ : Me)].flatMap mcells).toArray
        have Q3 := hid (cells_laid [(⟨⟨10, nn, N, A⟩, y, s, z, t⟩ : Me)] w2)
        have R3 := hid (R2.stay b3)
        have G3 := hid (G2.stay b3)
        have SZ : Hid (B ≤ (w2.alloc (.cells ([(⟨⟨10, nn, N, A⟩, y, s, z, t⟩ : Me)].flatMap mcells).toArray 36)).heap.size) := hid (by have := BS.out; have := G3.out.1.size; omega)
        have P3 : Hid (∀ e ∈ [(⟨⟨10, nn, N, A⟩, y, s, z, t⟩ : Me)], MeIn (w2.alloc (.cells ([(⟨⟨10, nn, N, A⟩, y, s, z, t⟩ : Me)].flatMap mcells).toArray 36)) e ∧ MeOff u1.ownBlock e) := hid (fun e he => by rw [List.mem_singleton.1 he]; exact ⟨ME.below b3, OF⟩)
        clear ME OF hS hD hz b2 f1 f2 b3 R2 G2
        go_wp2_with (at_builtin; refine wpList_append_p [(⟨⟨10, nn, N, A⟩, y, s, z, t⟩ : Me)] rfl _ _ rfl rfl rfl R3.out rfl Q3.out P3.out (by omega) SZ.out ?_; intro v5 w5 r5 g5)
        have R5 := hid r5
        have G5 := hid (G3.out.trans g5)
        clear r5 g5 R3 G3 Q3 P3
        go_ret
        refine ⟨_, rfl, ?_, G5.out⟩
        rw [← HM.out]
        exact R5.out
      | true =>
        replace HM : Hid (mz ++ [litM 9] = mr) := hid (by have h := HM.out; rw [if_pos rfl, FL.out] at h; exact h)
        clear F FL
        have R2 := R1.out
        have G2 := G1.out
        have b3 := boxed 36 wr ([(⟨litM 9, none, 0, none, 0⟩ : Me)].flatMap mcells).toArray
        have Q3 := hid (cells_laid [(⟨litM 9, none, 0, none, 0⟩ : Me)] wr)
        have R3 := hid (R2.stay b3)
        have G3 := hid (G2.stay b3)
        have SZ : Hid (B ≤ (wr.alloc (.cells ([(⟨litM 9, none, 0, none, 0⟩ : Me)].flatMap mcells).toArray 36)).heap.size) := hid (by have := BS.out; have := G3.out.1.size; omega)
        have P3 : Hid (∀ e ∈ [(⟨litM 9, none, 0, none, 0⟩ : Me)], MeIn (wr.alloc (.cells ([(⟨litM 9, none, 0, none, 0⟩ : Me)].flatMap mcells).toArray 36)) e ∧ MeOff u1.ownBlock e) := hid (fun e he => by rw [List.mem_singleton.1 he]; exact ⟨lit_in _ _ (by decide), lit_off _ _⟩)
        clear  b3 R2 G2
        go_wp2_with (at_builtin; refine wpList_append_p [(⟨litM 9, none, 0, none, 0⟩ : Me)] rfl _ _ rfl rfl rfl R3.out rfl Q3.out P3.out (by omega) SZ.out ?_; intro v5 w5 r5 g5)
        have R5 := hid r5
        have G5 := hid (G3.out.trans g5)
        clear r5 g5 R3 G3 Q3 P3
        go_ret
        refine ⟨_, rfl, ?_, G5.out⟩
        rw [← HM.out]
        exact R5.out

/-- What plain tells of a tree of right nodes. -/
theorem plain_any (tr : T) : wf tr → PlainC tr := by
  induction tr with
  | leaf m => exact fun _ => plain_leaf m
  | one m a ih => exact fun h => plain_one m a (ih h.2)
  | two m a b ia ib =>
    intro h
    rcases takes_two h.1 with q9 | q9
    · exact plain_and m a b q9 (ia h.2.1) (ib h.2.2)
    · exact plain_or m a b q9 (ia h.2.1) (ib h.2.2)

end Go.Proofs.Ytdkpdlkcloaoeaa.Ru
