/-
  The law TrieOrder: its walk.
-/
import Derived.Test.YtoakpkpdipgfoaaTrOrd
import Derived.Test.YtoakpkpdipgfoaaForkQ
namespace Go.Proofs.Ytoakpkpdipgfoaa
open Go.RowKit Go.Deep

theorem ord_info_bool : (Try.prog.info? 4).map (fun i => (i.zero, i.size, i.bytes)) = some (some (.bool false), 1, 1) := by kernel_rfl

/-- Which numbers were met. -/
def metC (k : Nat) (Z : List Nat) : Array Value := ((List.range k).map fun i => Value.bool (decide (i ∈ Z))).toArray

theorem metC_at {k i : Nat} (Z : List Nat) (h : i < k) : (metC k Z)[i]? = some (.bool (decide (i ∈ Z))) := by
  unfold metC
  simp [h]

theorem metC_set {k z : Nat} (Z : List Nat) (h : z < k) : (metC k Z).setIfInBounds z (.bool true) = metC k (Z ++ [z]) := by
  apply Array.ext_getElem?
  intro i
  unfold metC
  by_cases c : i = z
  · subst c
    simp [h]
  · have c' : z ≠ i := fun q => c q.symm
    rw [Array.getElem?_setIfInBounds]
    simp only [c', if_false]
    by_cases hi : i < k
    · simp [hi, c]
    · simp [hi]

theorem metC_new (k : Nat) : (madeCells #[Value.bool false] (k * 1)).toList = (metC k []).toList := by
  unfold metC
  apply List.ext_getElem?
  intro i
  simp [madeCells]
  by_cases h : i < k <;> simp [h, Nat.mod_one]

theorem Has.cell2 {g : Nat} {w : World} {o : Option Obj} (s : Has g o) (h : w.heap[g]? = o) (i : Nat) : s.val.cell? ⟨g, i, none⟩ = w.cell? ⟨g, i, none⟩ := World.cell?_of_block (w := w) (s.has.trans h.symm)

/-- What the law's first loop keeps. -/
def OrdRel (ws : World) (t1 t2 gm k : Nat) (L : List Bv) (ns : List Int) (i : Value) (wr : World) : Prop :=
  ∃ j T1 T2 Z, j ≤ k ∧ i = .int .i64 (j : Int) ∧ Two ws wr t1 t2 gm T1 T2 ∧ Bl 4 wr gm (metC k Z) ∧ Z.length = j ∧ Z.Nodup ∧ (∀ z ∈ Z, z < k) ∧
    Inv T1 (begN L ns j) ∧ T1.ents.length = j ∧ Inv T2 (Z.map (begF L ns)) ∧ T2.ents.length = j

set_option maxHeartbeats 8000000 in
set_option maxRecDepth 100000 in
theorem torder_walk {xa xn xo xd : Option Addr} {ca la cn ln co lo cd ld : Nat} (L : List Bv) (ns O : List Int) (D : List Bv) (w : World) (hL : Byss w xa ca L) (hns : Ints w xn cn ns) (hO : Ints w xo co O) (hD : Byss w xd cd D)
    (jl : L.length = la) (jn : ns.length = ln) (jo : O.length = lo) (jd : D.length = ld) (hbd : L.length ≤ 5000000000000 ∨ ns.length ≤ 5000000000000) :
    Calls Try.prog 3 #[.slice xa la ca, .slice xn ln cn, .slice xo lo co, .slice xd ld cd] w fun e w' => e = .returned (.bool true) ∧ Below w.heap.size w w' := by
  subst jl jn jo jd
  have HL := hid hL
  have HN := hid hns
  have HOo := hid hO
  have HD := hid hD
  have hOl := hO.2.1
  have hDl := hD.2.1
  clear hL hns hO hD
  go_enter Try.func3, Try.ntmps3
  go_upto_region 4 with (go_at_call 5; refine (tried_any _).mono ?_; rintro e w1 ⟨rfl, d1⟩)
  have B1 := hid d1
  clear d1
  have CB := hid (begins_any (x := xa) (c := ca) (l := L.length) (y := xn) (d := cn) (m := ns.length) L ns w1 (HL.out.below B1.out) (HN.out.below B1.out) rfl rfl hbd)
  go_upto_region 5 with (go_at_call 6; refine CB.out.mono ?_; rintro e w2 ⟨xb, cb, rfl, hbg, d2⟩)
  obtain ⟨k, hk⟩ : ∃ k, min L.length ns.length = k := ⟨_, rfl⟩
  rw [hk] at hbg ⊢
  have HBG := hid hbg
  have B2 := hid (B1.out.trans (d2.mono B1.out.size))
  have allin : Hid (∀ i, i < k → (begF L ns i).e.in w) := hid (fun i hi => by
    have : i < L.length := by omega
    unfold begF
    rw [List.getD_eq_getElem?_getD, List.getElem?_eq_getElem this]
    exact HL.out.2.2.1 _ (List.getElem_mem this))
  have Lin : Hid (∀ b ∈ begN L ns k, b.e.in w) := hid (fun b hb => by
    obtain ⟨i, hi, rfl⟩ := List.mem_map.1 hb
    exact allin.out i (List.mem_range.1 hi))
  clear hbg CB d2
  by_cases c1 : 60 < k
  · have c1' : (60 : Int) < (k : Int) := by omega
    go_wp2
    go_ret
    exact ⟨rfl, B2.out⟩
  by_cases c2 : 60 < D.length
  · have c1' : (k : Int) ≤ 60 := by omega
    have c2' : (60 : Int) < (D.length : Int) := by omega
    go_wp2
    go_ret
    exact ⟨rfl, B2.out⟩
  have c1' : (k : Int) ≤ 60 := by omega
  have c2' : (D.length : Int) ≤ 60 := by omega
  by_cases c3n : O.length ≠ k
  · have c3' : ((O.length : Int) != (k : Int)) = true := by simp; omega
    go_wp2
    go_ret
    exact ⟨rfl, B2.out⟩
  have c3 : O.length = k := Decidable.not_not.1 c3n
  clear c3n
  have c3' : ((O.length : Int) != (k : Int)) = false := by simp; omega
  have C3 := hid c3
  clear c3
  have CU := hid (unlike_any (l := k) (begN L ns k) w2 HBG.out (fun b hb => (Lin.out b hb).below B2.out) (begN_len L ns k) (by rw [begN_len]; omega))
  go_upto_region 7 with (go_at_call 7; refine CU.out.mono ?_; rintro e w3 ⟨r, rfl, hun, d3⟩; have B3 := hid (B2.out.trans (d3.mono B2.out.size)); have HU := hid hun; have d3' := hid d3; clear hun d3; cases r)
  · go_wp2
    go_ret
    exact ⟨rfl, B3.out⟩
  have hun := HU.out (by trivial)
  rw [begN_len] at hun
  have HUN := hid hun
  have D23 := d3'
  clear HU CU hun d3'
  go_upto_region 8 with (go_at_call 8; refine (new_at _).mono ?_; rintro e w4 ⟨rfl, k4, d4⟩)
  go_upto_region 11 with (go_at_call 8; refine (new_at _).mono ?_; rintro e w5 ⟨rfl, k5, d5⟩)
  have S1 := hid ((TrieS.new k4).below d5)
  have S2 := hid (TrieS.new k5)
  have D25 := hid (D23.out.trans (((d4.trans (d5.mono d4.size))).mono D23.out.size))
  have h23 := D23.out.size
  have h34 := k4.lt
  have h45 := k5.lt
  have h34' := d4.size
  generalize w3.heap.size = t1 at *
  generalize w4.heap.size = t2 at *
  have hkm : (k : Int) ≤ 60 := c1'
  obtain ⟨i0, hi, hz0, hz1, hz2⟩ := info_parts ord_info_bool
  clear k4 k5 d4 d5 D23
  go_upto_region 12 with (at_make; refine wpList_make_full _ rfl _ _ 30 rfl w5.heap.size 4 i0 (.bool false) 1 Try.underlying30 hi hz0 hz1 _ _ _ _ k rfl rfl rfl rfl (by rw [hz2]; omega) (by unfold maxLen; omega) (Nat.le_refl _) ?_; intro ws hown6 hg6)
  have KM : Hid (Bl 4 ws w5.heap.size (metC k [])) := hid (by
    rcases hown6.2 with ⟨e, _⟩ | ⟨g, cap, cur, e, _, hgg, _, _, hcs, htk⟩
    · cases e
    · cases e
      rw [List.take_of_length_le (by simpa using Nat.le_of_eq hcs)] at htk
      have htk2 : cur.toList = (madeCells (Value.bool false).cells (k * 1)).toList := by simpa using htk
      rw [show (Value.bool false).cells = #[Value.bool false] from rfl, metC_new] at htk2
      have : cur = metC k [] := Array.ext' htk2
      rw [← this]
      exact hgg)
  have D56 : Below w5.heap.size w5 ws := (Below.refl _ _).grown hg6 (Nat.le_refl _) (fun g q => by cases q)
  have T0 := hid (show Two ws ws t1 t2 w5.heap.size .nil .nil from ⟨S1.out.below D56, S2.out.below D56, fun b hb => (by simp [Tn.blks] at hb), fun b hb => (by simp [Tn.blks] at hb), fun b hb q => (by simp [Tn.blks] at hb q; omega), Only.refl _ _⟩)
  have h5s := KM.out.lt
  have D2s := hid (D25.out.trans (D56.mono D25.out.size))
  have BS := hid (B2.out.trans (D2s.out.mono B2.out.size))
  have hB2 := B2.out.size
  have h25 := D25.out.size
  generalize w5.heap.size = gm at *
  clear hown6 hg6 hi hz0 hz1 hz2 i0 S1 S2 D56 D25 B1 B3
  -- the beginnings' cells, in any world of the law
  have CELL : Hid (∀ (wr : World), Only [t1, t2, gm] ws wr → ∀ i, i < k → ∃ g, xb = some ⟨g, 0, none⟩ ∧ g < w2.heap.size ∧ wr.heap[g]? = w2.heap[g]? ∧ w2.cell? ⟨g, i * 3, none⟩ = some (.slice (begF L ns i).e.x (begF L ns i).e.A.length (begF L ns i).e.c) ∧ w2.cell? ⟨g, i * 3 + 1, none⟩ = some (.int .i64 (begF L ns i).n) ∧ w2.cell? ⟨g, i * 3 + 2, none⟩ = some (.int .i64 (begF L ns i).val)) := hid (fun wr ho i hi => by
    have hil : i < (begN L ns k).length := by rw [begN_len]; exact hi
    obtain ⟨g, hx, hg, q0, q1, q2⟩ := HBG.out.at hil
    rw [begN_get] at q0 q1 q2
    refine ⟨g, hx, hg, ?_, q0, q1, q2⟩
    rw [ho.block g (Nat.lt_of_lt_of_le hg D2s.out.size) (by simp; omega), D2s.out.block g hg])
  have RIGHT : Hid (∀ i, i < k → RightB (begF L ns i)) := hid (fun i hi => by
    have := (HUN.out i (by rw [begN_len]; exact hi) hi).1
    rwa [begN_get] at this)
  have APART : Hid (∀ i, i < k → ∀ j, j < k → (begF L ns i).n = (begF L ns j).n → Al (begF L ns i).e.A (begF L ns j).e.A (begF L ns i).n.toNat → i = j) := hid (fun i hi j hj h1 h2 => by
    have := un_apart (P := begN L ns k) (by rw [begN_len]; exact HUN.out) i (by rw [begN_len]; exact hi) j (by rw [begN_len]; exact hj)
    rw [begN_get, begN_get] at this
    exact this h1 h2)
  go_wp2
  go_loopw [14] (fun i wr => OrdRel ws t1 t2 gm k L ns i wr) (fun i _ => k - (intOf i).toNat)
  case atStart => exact ⟨0, .nil, .nil, [], Nat.zero_le _, rfl, T0.out, KM.out, rfl, List.nodup_nil, fun z hz => (by cases hz), Inv.nil, rfl, Inv.nil, rfl⟩
  case round =>
    obtain ⟨j, T1, T2, Z, hj, rfl, hTW, hKM, hZl, hZn, hZk, hI1, hl1, hI2, hl2⟩ := hrel
    have HTW := hid hTW
    have HKM := hid hKM
    have HI1 := hid hI1
    have HI2 := hid hI2
    have HZ := hid (show Z.length = j ∧ Z.Nodup ∧ (∀ z ∈ Z, z < k) from ⟨hZl, hZn, hZk⟩)
    have BW := hid (hTW.only.below BS.out (by omega) (fun b hb => by simp at hb; omega))
    clear hTW hKM hI1 hI2 hZl hZn hZk
    by_cases cj : j < k
    · have cj' : (j : Int) < (k : Int) := by omega
      obtain ⟨_, _, _, dO⟩ := HOo.out
      rcases dO with dO | ⟨bo, oo, rfl, hbo, qo⟩
      · have c3 := C3.out; rw [dO] at c3; simp at c3; omega
      have o0 : wr.cell? ⟨bo, oo + j, none⟩ = some (.int .i64 (O.getD j 0)) := by rw [BW.out.cell (p := ⟨bo, oo + j, none⟩) hbo]; exact qo j (by have := C3.out; omega)
      have oi : (j : Int) < (O.length : Int) := by have := C3.out; omega
      clear qo
      generalize O.getD j 0 = z at *
      by_cases z1 : z < 0
      · go_wp2
        go_ret
        exact ⟨rfl, BW.out⟩
      by_cases z2 : (k : Int) ≤ z
      · go_wp2
        go_ret
        exact ⟨rfl, BW.out⟩
      obtain ⟨zn, rfl⟩ : ∃ zn : Nat, z = (zn : Int) := ⟨z.toNat, by omega⟩
      have zk : zn < k := by omega
      have m0 := HKM.out.cell (metC_at Z zk)
      by_cases z3 : zn ∈ Z
      · rw [decide_eq_true z3] at m0
        go_wp2
        go_ret
        exact ⟨rfl, BW.out⟩
      rw [decide_eq_false z3] at m0
      have m1 := HKM.out.frozen zn
      have MS := hid fun (u : World) (e : wr.setCell ⟨gm, zn, none⟩ (.bool true) = u) => (show Two ws u t1 t2 gm T1 T2 ∧ Bl 4 u gm (metC k (Z ++ [zn])) by
        rw [← e]
        refine ⟨HTW.out.store HKM.out zn _, ?_⟩
        have := HKM.out.set zn (.bool true)
        rwa [metC_set Z zk] at this)
      go_upto_region 19 with fail
      generalize hww : wr.setCell ⟨gm, zn, none⟩ (.bool true) = wx at *
      have HTX := hid (MS.out wx rfl).1
      have HKX := hid (MS.out wx rfl).2
      have BX := hid (HTX.out.only.below BS.out (by omega) (fun b hb => by simp at hb; omega))
      clear hww MS m0 m1 o0 HTW HKM BW
      obtain ⟨g, rfl, hgl, hgx, q0, q1, q2⟩ := CELL.out wx HTX.out.only j cj
      obtain ⟨g', hxb', _, _, r0, r1, r2⟩ := CELL.out wx HTX.out.only zn zk
      simp only [Option.some.injEq, Addr.mk.injEq] at hxb'
      obtain ⟨rfl, _⟩ := hxb'
      have R1 := RIGHT.out j cj
      have R2 := RIGHT.out zn zk
      have I1 := allin.out j cj
      have I2 := allin.out zn zk
      obtain ⟨ob, hob⟩ : ∃ ob, w2.heap[g]? = ob := ⟨_, rfl⟩
      rw [hob] at hgx
      have HOB := hid hob
      have HGK : Hid (∀ u, Only [t1, t2, gm] ws u → u.heap[g]? = ob) := hid (fun u hu => by
        obtain ⟨g', e, _, h, _⟩ := CELL.out u hu j cj
        rw [← hob]
        simp only [Option.some.injEq, Addr.mk.injEq] at e
        obtain ⟨rfl, _⟩ := e
        exact h)
      have F1 : Hid (∀ b' ∈ begN L ns j, ¬ (b'.n = (begF L ns j).n ∧ Al b'.e.A (begF L ns j).e.A (begF L ns j).n.toNat)) := hid (fun b' hb' q => by
        obtain ⟨i, hi, rfl⟩ := List.mem_map.1 hb'
        have hij := List.mem_range.1 hi
        have := APART.out i (by omega) j cj q.1 (by rw [q.1]; exact q.2)
        omega)
      have F2 : Hid (∀ b' ∈ Z.map (begF L ns), ¬ (b'.n = (begF L ns zn).n ∧ Al b'.e.A (begF L ns zn).e.A (begF L ns zn).n.toNat)) := hid (fun b' hb' q => by
        obtain ⟨i, hi, rfl⟩ := List.mem_map.1 hb'
        have := APART.out i (HZ.out.2.2 i hi) zn zk q.1 (by rw [q.1]; exact q.2)
        subst this
        exact z3 hi)
      have P1 := hid (begN_succ L ns j)
      have P2 : Hid ((Z ++ [zn]).map (begF L ns) = Z.map (begF L ns) ++ [begF L ns zn]) := hid (by simp)
      generalize begF L ns j = E at *
      generalize begF L ns zn = F at *
      obtain ⟨N1, hN1⟩ : ∃ N : Nat, E.n = (N : Int) := ⟨E.n.toNat, by have := R1.2.1; omega⟩
      obtain ⟨N2, hN2⟩ : ∃ N : Nat, F.n = (N : Int) := ⟨F.n.toNat, by have := R2.2.1; omega⟩
      have hb1 := R1.2.2
      have hb2 := R2.2.2
      rw [hN1] at q1 hb1
      rw [hN2] at r1 hb2
      have C1 := hid fun (u : World) (hu : Below wx.heap.size wx u) => tput_good t1 T1 (x := E.e.x) (c := E.e.c) (l := E.e.A.length) E.e.A N1 E.val u (HTX.out.s1.below hu) (I1.1.below (BX.out.trans (hu.mono BX.out.size))) rfl R1.1 (by omega) (by omega)
      have C2 := hid fun (u : World) (S2 : TrieS u t2 T2) (hu : Below w.heap.size w u) => tput_good t2 T2 (x := F.e.x) (c := F.e.c) (l := F.e.A.length) F.e.A N2 F.val u S2 (I2.1.below hu) rfl R2.1 (by omega) (by omega)
      have a0 : ∀ s' : Has g ob, s'.val.cell? ⟨g, j * 3, none⟩ = some (.slice E.e.x E.e.A.length E.e.c) := fun s' => by rw [s'.cell2 HOB.out]; exact q0
      have a1 : ∀ s' : Has g ob, s'.val.cell? ⟨g, j * 3 + 1, none⟩ = some (.int .i64 (N1 : Int)) := fun s' => by rw [s'.cell2 HOB.out]; exact q1
      have a2 : ∀ s' : Has g ob, s'.val.cell? ⟨g, j * 3 + 2, none⟩ = some (.int .i64 E.val) := fun s' => by rw [s'.cell2 HOB.out]; exact q2
      have e0 : ∀ s' : Has g ob, s'.val.cell? ⟨g, zn * 3, none⟩ = some (.slice F.e.x F.e.A.length F.e.c) := fun s' => by rw [s'.cell2 HOB.out]; exact r0
      have e1 : ∀ s' : Has g ob, s'.val.cell? ⟨g, zn * 3 + 1, none⟩ = some (.int .i64 (N2 : Int)) := fun s' => by rw [s'.cell2 HOB.out]; exact r1
      have e2 : ∀ s' : Has g ob, s'.val.cell? ⟨g, zn * 3 + 2, none⟩ = some (.int .i64 F.val) := fun s' => by rw [s'.cell2 HOB.out]; exact r2
      have hNe : Nonempty (Has g ob) := ⟨⟨w2, hob⟩⟩
      have HN1 := hid hN1
      have HN2 := hid hN2
      have HR1 := hid R1
      have HR2 := hid R2
      have HGX := hid hgx
      have zi : (zn : Int) < (k : Int) := by omega
      clear q0 q1 q2 r0 r1 r2 hN1 hN2 R1 R2 I1 I2 hb1 hb2 hgx hob
      refine wp_region_ph (.qs [0, 1, 2, 3, 4, 5, 6, 7, 8, 9, 10, 11, 12, 13, 14, 15] (.one 16 (.one 17 (.one 18 (.qs [19, 20, 21, 22, 23, 24, 25, 26, 27, 28, 29, 30, 31, 32, 33, 34] (.one 35 (.one 36 (.one 37 .nil)))))))) (fun u => ∃ s' : Has g ob, u = s'.val) (by kernel_rfl) (by kernel_rfl) ?_
      refine phL_qs ⟨⟨wx.drew, HGX.out⟩, rfl⟩ ?_
      change wpQuiet _ _ _ _ [_, _, _, _, _, _, _, _, _, _, _, _, _, _, _, _] _
      repeat (go_big_quiet_step (fail))
      refine wpQuiet_nil ?_
      change stepL _ _ _ _ _ _ _ _ _
      refine stepL_at (by rfl) fun K Q' hK => ?_
      go_simp
      refine (C1.out _ (Below.refl _ wx).drew).mono ?_
      rintro e w5 ⟨rfl, T1', s1', u1, o1, n1⟩
      have TW5 := (HTX.out.grow (Below.refl _ wx).drew).put1 s1' o1 n1
      have KM5 : Hid (Bl 4 w5 gm (metC k (Z ++ [zn]))) := hid ((show Bl 4 wx.drew gm _ from HKX.out).only o1 ((HTX.out.grow (Below.refl _ wx).drew).s1.notBool (show Bl 4 wx.drew gm _ from HKX.out)))
      have hg5 := HGK.out w5 TW5.only
      refine hK _ _ (fun _ => ⟨⟨w5, hg5⟩, rfl⟩) ?_
      clear hK
      have HTW5 := hid TW5
      have HU1 := hid u1
      clear TW5 s1' u1 o1 n1
      change stepL _ _ _ _ _ _ _ _ _
      refine stepL_at (by rfl) fun K Q' hK => ?_
      go_simp
      refine hK _ _ (fun _ => ⟨⟨w5, hg5⟩, rfl⟩) ?_
      clear hK
      change stepL _ _ _ _ _ _ _ _ _
      refine stepL_at (by rfl) fun K Q' hK => ?_
      go_simp
      refine hK _ _ (fun _ => ⟨⟨w5, hg5⟩, rfl⟩) ?_
      clear hK
      refine phL_qs ⟨⟨w5, hg5⟩, rfl⟩ ?_
      change wpQuiet _ _ _ _ [_, _, _, _, _, _, _, _, _, _, _, _, _, _, _, _] _
      repeat (go_big_quiet_step (fail))
      refine wpQuiet_nil ?_
      change stepL _ _ _ _ _ _ _ _ _
      refine stepL_at (by rfl) fun K Q' hK => ?_
      go_simp
      have BW5 := HTW5.out.only.below BS.out (by omega) (fun b hb => by simp at hb; omega)
      refine (C2.out w5 HTW5.out.s2 BW5).mono ?_
      rintro e w6 ⟨rfl, T2', s2', u2, o2, n2⟩
      have TW6 := HTW5.out.put2 s2' o2 n2
      have KM6 : Hid (Bl 4 w6 gm (metC k (Z ++ [zn]))) := hid (KM5.out.only o2 (HTW5.out.s2.notBool KM5.out))
      have hg6 := HGK.out w6 TW6.only
      refine hK _ _ (fun _ => ⟨⟨w6, hg6⟩, rfl⟩) ?_
      clear hK
      have HTW6 := hid TW6
      have HU2 := hid u2
      clear TW6 s2' u2 o2 n2 BW5
      change stepL _ _ _ _ _ _ _ _ _
      refine stepL_at (by rfl) fun K Q' hK => ?_
      go_simp
      refine hK _ _ (fun _ => ⟨⟨w6, hg6⟩, rfl⟩) ?_
      clear hK
      change stepL _ _ _ _ _ _ _ _ _
      refine stepL_at (by rfl) fun K Q' hK => ?_
      go_simp
      refine hK _ _ (fun _ => ⟨⟨w6, hg6⟩, rfl⟩) ?_
      clear hK
      refine phL_nil ?_
      clear a0 a1 a2 e0 e1 e2 hNe hg5 hg6 C1 C2
      have HL1 : Hid (T1'.ents.length = j + 1) := hid (by rw [HI1.out.one HN1.out HU1.out F1.out, hl1])
      have HL2 : Hid (T2'.ents.length = j + 1) := hid (by rw [HI2.out.one HN2.out HU2.out F2.out, hl2])
      go_wp2
      go_roundw
      case rel =>
        refine ⟨j + 1, T1', T2', Z ++ [zn], by omega, by go_num, HTW6.out, KM6.out, by simp [HZ.out.1], ?_, fun z hz => ?_, by rw [P1.out]; exact HI1.out.put HR1.out HN1.out HU1.out, HL1.out, by rw [P2.out]; exact HI2.out.put HR2.out HN2.out HU2.out, HL2.out⟩
        · rw [List.nodup_append]
          exact ⟨HZ.out.2.1, by simp, fun a ha b hb q => z3 (by have : b = zn := (by simpa using hb); rw [← this, ← q]; exact ha)⟩
        · rcases List.mem_append.1 hz with q | q
          · exact HZ.out.2.2 z q
          · have : z = zn := (by simpa using q)
            omega
      case measure => simp [intOf]; omega
    · have cj' : ¬ (j : Int) < (k : Int) := by omega
      obtain rfl : j = k := by omega
      obtain ⟨w5, hw5⟩ : ∃ u, u = wr := ⟨_, rfl⟩
      subst hw5
      have MEM : Hid (∀ b, b ∈ begN L ns j ↔ b ∈ Z.map (begF L ns)) := hid (fun b => by
        unfold begN
        rw [List.mem_map, List.mem_map]
        constructor
        · rintro ⟨i, hi, rfl⟩
          exact ⟨i, nodup_all HZ.out.2.1 HZ.out.2.2 HZ.out.1 i (List.mem_range.1 hi), rfl⟩
        · rintro ⟨i, hi, rfl⟩
          exact ⟨i, List.mem_range.2 (HZ.out.2.2 i hi), rfl⟩)
      have UQ : Hid (∀ Q, ∀ b ∈ begN L ns j, ∀ b' ∈ begN L ns j, fitB b Q → fitB b' Q → b.n = b'.n → b = b') := hid (fun Q b hb b' hb' f f' hn => by
        obtain ⟨i, hi, rfl⟩ := List.mem_map.1 hb
        obtain ⟨i', hi', rfl⟩ := List.mem_map.1 hb'
        have := APART.out i (List.mem_range.1 hi) i' (List.mem_range.1 hi') hn (fun z hz => by rw [f.2 z hz, f'.2 z (by rw [← hn]; exact hz)])
        rw [this])
      have CLn1 := hid (fun (u : World) (hu : Below w5.heap.size w5 u) => tlen_at u t1 _ _ (HTW.out.s1.below hu).root)
      have CLn2 := hid (fun (u : World) (hu : Below w5.heap.size w5 u) => tlen_at u t2 _ _ (HTW.out.s2.below hu).root)
      rw [hl1] at CLn1
      rw [hl2] at CLn2
      clear HKM hl1 hl2
      go_wp2
      go_loopw [16] (fun i wr => ∃ j2, j2 ≤ D.length ∧ i = .int .i64 (j2 : Int) ∧ Below w5.heap.size w5 wr) (fun i _ => D.length - (intOf i).toNat)
      case atStart => exact ⟨0, Nat.zero_le _, rfl, Below.refl _ _⟩
      case round =>
        obtain ⟨j2, hj2, rfl, hb5⟩ := hrel
        have H5 := hid hb5
        have BWR := hid (BW.out.trans (hb5.mono BW.out.size))
        by_cases cd2 : j2 < D.length
        · have cd2' : (j2 : Int) < (D.length : Int) := by omega
          obtain ⟨_, _, hDin, dD⟩ := HD.out
          rcases dD with dD | ⟨bd, od, rfl, hbd', qd⟩
          · rw [dD] at cd2; simp at cd2
          have q1 := qd j2 cd2
          have HE2 := hid (hDin _ (List.getElem_mem cd2))
          clear qd hDin hb5
          generalize D[j2] = E at *
          have q1' : w.cell? ⟨bd, od + j2, none⟩ = some (.slice E.x E.A.length E.c) := q1
          have HQ1 : Hid (∀ u, Below w.heap.size w u → u.cell? ⟨bd, od + j2, none⟩ = some (.slice E.x E.A.length E.c)) := hid (fun u hu => by rw [hu.cell (p := ⟨bd, od + j2, none⟩) hbd']; exact q1')
          clear q1 q1'
          have z0 := HQ1.out wr BWR.out
          obtain ⟨q, hq⟩ : ∃ q, padN (E.A.take 16) = q := ⟨_, rfl⟩
          obtain ⟨m, hm⟩ : ∃ m, 8 * (min E.A.length 16) = m := ⟨_, rfl⟩
          have hb1 := best_of HI1.out HTW.out.s1.wf hq hm
          have hb2 := best_of HI2.out HTW.out.s2.wf hq hm
          have heq := best_one hb1 hb2 MEM.out (UQ.out E.A)
          have HB1 := hid hb1
          have hEl := HE2.out.1.2.1
          clear hb1 hb2
          rcases hg1 : T1.get q m none with _ | ⟨k1, v1⟩
          all_goals
            rw [hg1] at HB1 heq
            have CG1 := hid (tget_q t1 T1 q m (x := E.x) (c := E.c) (l := E.A.length) E.A wr (HTW.out.s1.below H5.out) (HE2.out.1.take_of BWR.out) rfl HE2.out.1.2.1 HE2.out.1.1 HE2.out.2 rfl hq hm _ hg1)
            go_upto_region 25 with (go_at_call 10; refine CG1.out.mono ?_; rintro e w6 ⟨rfl, d6⟩; rw [getV])
            have BW6 := hid (BWR.out.trans (d6.mono BWR.out.size))
            have H6 := hid (H5.out.trans (d6.mono H5.out.size))
            clear z0 CG1 d6
            have z0 := HQ1.out w6 BW6.out
            have CG2 := hid (tget_q t2 T2 q m (x := E.x) (c := E.c) (l := E.A.length) E.A w6 (HTW.out.s2.below H6.out) (HE2.out.1.take_of BW6.out) rfl HE2.out.1.2.1 HE2.out.1.1 HE2.out.2 rfl hq hm _ heq.symm)
            go_upto_region 26 with (go_at_call 10; refine CG2.out.mono ?_; rintro e w7 ⟨rfl, d7⟩; rw [getV])
            have BW7 := hid (BW6.out.trans (d7.mono BW6.out.size))
            have H7 := hid (H6.out.trans (d7.mono H6.out.size))
            clear z0 CG2 d7 heq
            go_wp2
          · go_loopw [23] (fun i wr => ∃ t, t ≤ j ∧ i = .int .i64 (t : Int) ∧ Drawn w7 wr) (fun i _ => j - (intOf i).toNat)
            case atStart => exact ⟨0, Nat.zero_le _, rfl, Drawn.refl _⟩
            case round =>
              obtain ⟨t, ht, rfl, hdr⟩ := hrel
              by_cases ct : t < j
              · have ct' : (t : Int) < (j : Int) := by omega
                have hB7 := H7.out.trans (hdr.below _)
                have BW8 := hid (BW7.out.trans (hdr.below _))
                obtain ⟨g, rfl, hgl, hgx, q0, q1, q2⟩ := CELL.out wr (HTW.out.only.grow hB7) t ct
                have x0 : wr.cell? ⟨g, t * 3, none⟩ = some (.slice (begF L ns t).e.x (begF L ns t).e.A.length (begF L ns t).e.c) := (World.cell?_of_block (w := w2) hgx).trans q0
                have x1 : wr.cell? ⟨g, t * 3 + 1, none⟩ = some (.int .i64 (begF L ns t).n) := (World.cell?_of_block (w := w2) hgx).trans q1
                have y0 := HQ1.out wr BW8.out
                have FIT := hid (show fitB (begF L ns t) E.A ↔ (begF L ns t).n ≤ 8 * (E.A.length : Int) ∧ Al (begF L ns t).e.A E.A (begF L ns t).n.toNat from Iff.rfl)
                have INB := hid (show begF L ns t ∈ begN L ns j from List.mem_map.2 ⟨t, List.mem_range.2 ct, rfl⟩)
                have CA := hid fun (u : World) (hu : Drawn wr u) (hn : (begF L ns t).n ≤ 8 * (E.A.length : Int)) => alike_f ((allin.out t ct).below (BW8.out.trans (hu.below _))) (HE2.out.1.below (BW8.out.trans (hu.below _))) (RIGHT.out t ct) hn
                clear q0 q1 q2 hgx hB7
                have HNO := hid (HB1.out _ INB.out)
                generalize begF L ns t = F at *
                by_cases f1 : F.n ≤ 8 * (E.A.length : Int)
                · have CQ := hid fun u hu => CA.out u hu f1
                  cases cal : decide (Al F.e.A E.A F.n.toNat) with
                  | true =>
                    have hf := FIT.out.2 ⟨f1, of_decide_eq_true cal⟩
                    rw [cal] at CQ
                    exact absurd hf HNO.out
                  | false =>
                    have hf : ¬ fitB F E.A := fun z => by have := FIT.out.1 z; exact of_decide_eq_false cal this.2
                    rw [cal] at CQ
                    go_wp2
                    go_quiet ((go_at_call 11; exact Calls.quiet_of_same (CQ.out _ ⟨_, rfl⟩)))
                    go_wp2
                    go_roundw
                    case rel => exact ⟨t + 1, by omega, by go_num, hdr.more _⟩
                    case measure => simp [intOf]; omega
                · have hf : ¬ fitB F E.A := fun z => f1 (FIT.out.1 z).1
                  have f1' : decide (F.n ≤ 8 * (E.A.length : Int)) = false := decide_eq_false f1
                  clear f1
                  go_wp2
                  go_quiet (fail)
                  go_wp2
                  go_roundw
                  case rel => exact ⟨t + 1, by omega, by go_num, hdr.more _⟩
                  case measure => simp [intOf]; omega
              · have ct' : ¬ (t : Int) < (j : Int) := by omega
                go_wp2
                go_roundw
                case rel => exact ⟨j2 + 1, by omega, by go_num, H7.out.trans (hdr.below _)⟩
                case measure => simp [intOf]; omega
          · go_loopw [23] (fun i wr => ∃ t, t ≤ j ∧ i = .int .i64 (t : Int) ∧ Drawn w7 wr) (fun i _ => j - (intOf i).toNat)
            case atStart => exact ⟨0, Nat.zero_le _, rfl, Drawn.refl _⟩
            case round =>
              obtain ⟨t, ht, rfl, hdr⟩ := hrel
              by_cases ct : t < j
              · have ct' : (t : Int) < (j : Int) := by omega
                have hB7 := H7.out.trans (hdr.below _)
                have BW8 := hid (BW7.out.trans (hdr.below _))
                obtain ⟨g, rfl, hgl, hgx, q0, q1, q2⟩ := CELL.out wr (HTW.out.only.grow hB7) t ct
                have x0 : wr.cell? ⟨g, t * 3, none⟩ = some (.slice (begF L ns t).e.x (begF L ns t).e.A.length (begF L ns t).e.c) := (World.cell?_of_block (w := w2) hgx).trans q0
                have x1 : wr.cell? ⟨g, t * 3 + 1, none⟩ = some (.int .i64 (begF L ns t).n) := (World.cell?_of_block (w := w2) hgx).trans q1
                have y0 := HQ1.out wr BW8.out
                have FIT := hid (show fitB (begF L ns t) E.A ↔ (begF L ns t).n ≤ 8 * (E.A.length : Int) ∧ Al (begF L ns t).e.A E.A (begF L ns t).n.toNat from Iff.rfl)
                have INB := hid (show begF L ns t ∈ begN L ns j from List.mem_map.2 ⟨t, List.mem_range.2 ct, rfl⟩)
                have CA := hid fun (u : World) (hu : Drawn wr u) (hn : (begF L ns t).n ≤ 8 * (E.A.length : Int)) => alike_f ((allin.out t ct).below (BW8.out.trans (hu.below _))) (HE2.out.1.below (BW8.out.trans (hu.below _))) (RIGHT.out t ct) hn
                clear q0 q1 q2 hgx hB7
                have HLE := hid (HB1.out.2 _ INB.out)
                have HVT : Hid (v1 = (t : Int) → fitB (begF L ns t) E.A ∧ (begF L ns t).n = (k1 : Int)) := hid (fun z => by
                  obtain ⟨⟨b, hb, hfb, hbn, hbv⟩, _⟩ := HB1.out
                  obtain ⟨i, hi, rfl⟩ := List.mem_map.1 hb
                  have hit : (i : Int) = v1 := hbv
                  obtain rfl : i = t := by omega
                  exact ⟨hfb, hbn⟩)
                generalize begF L ns t = F at *
                by_cases f1 : F.n ≤ 8 * (E.A.length : Int)
                · have CQ := hid fun u hu => CA.out u hu f1
                  cases cal : decide (Al F.e.A E.A F.n.toNat) with
                  | true =>
                    have hf := FIT.out.2 ⟨f1, of_decide_eq_true cal⟩
                    rw [cal] at CQ
                    have hle := HLE.out hf
                    have hlt' : ¬ (k1 : Int) < F.n := by omega
                    by_cases hv : v1 = (t : Int)
                    · have hv' : (v1 == (t : Int)) = true := by rw [hv]; simp
                      have hn' : ((k1 : Int) != F.n) = false := by rw [(HVT.out hv).2]; simp
                      clear hv
                      go_wp2
                      go_quiet ((go_at_call 11; exact Calls.quiet_of_same (CQ.out _ ⟨_, rfl⟩)))
                      go_wp2
                      go_roundw
                      case rel => exact ⟨t + 1, by omega, by go_num, hdr.more _⟩
                      case measure => simp [intOf]; omega
                    · have hv' : (v1 == (t : Int)) = false := by simpa using hv
                      go_wp2
                      go_quiet ((go_at_call 11; exact Calls.quiet_of_same (CQ.out _ ⟨_, rfl⟩)))
                      go_wp2
                      go_roundw
                      case rel => exact ⟨t + 1, by omega, by go_num, hdr.more _⟩
                      case measure => simp [intOf]; omega
                  | false =>
                    have hf : ¬ fitB F E.A := fun z => by have := FIT.out.1 z; exact of_decide_eq_false cal this.2
                    rw [cal] at CQ
                    have hv' : (v1 == (t : Int)) = false := by simpa using (fun z => hf (HVT.out z).1)
                    go_wp2
                    go_quiet ((go_at_call 11; exact Calls.quiet_of_same (CQ.out _ ⟨_, rfl⟩)))
                    go_wp2
                    go_roundw
                    case rel => exact ⟨t + 1, by omega, by go_num, hdr.more _⟩
                    case measure => simp [intOf]; omega
                · have hf : ¬ fitB F E.A := fun z => f1 (FIT.out.1 z).1
                  have f1' : decide (F.n ≤ 8 * (E.A.length : Int)) = false := decide_eq_false f1
                  clear f1
                  have hv' : (v1 == (t : Int)) = false := by simpa using (fun z => hf (HVT.out z).1)
                  go_wp2
                  go_quiet (fail)
                  go_wp2
                  go_roundw
                  case rel => exact ⟨t + 1, by omega, by go_num, hdr.more _⟩
                  case measure => simp [intOf]; omega
              · have ct' : ¬ (t : Int) < (j : Int) := by omega
                go_wp2
                go_roundw
                case rel => exact ⟨j2 + 1, by omega, by go_num, H7.out.trans (hdr.below _)⟩
                case measure => simp [intOf]; omega
        · have cd2' : ¬ (j2 : Int) < (D.length : Int) := by omega
          go_wp2_with (first | (go_at_call 12; refine (CLn1.out _ H5.out).mono ?_; rintro e w8 ⟨rfl, rfl⟩) | (go_at_call 12; refine (CLn2.out _ H5.out).mono ?_; rintro e w8 ⟨rfl, rfl⟩))
          go_ret
          exact ⟨rfl, BWR.out⟩

end Go.Proofs.Ytoakpkpdipgfoaa
