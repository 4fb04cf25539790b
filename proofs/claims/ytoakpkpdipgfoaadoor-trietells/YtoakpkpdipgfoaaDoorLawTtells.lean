/-
  The law TrieTells: its walk.
-/
import Derived.Test.YtoakpkpdipgfoaaDoorTrRows
import Derived.Test.YtoakpkpdipgfoaaDoorRefFault
namespace Go.Proofs.YtoakpkpdipgfoaaDoor
open Go.RowKit Go.Deep

/-- What the law's first loop keeps. -/
def TellRel (w3 : World) (tb k : Nat) (L : List Bg) (v i : Value) (wr : World) : Prop :=
  ∃ j T P, j ≤ k ∧ i = .int .i64 (j : Int) ∧ TrieL w3 wr tb T j ∧ BRow wr w3.heap.size v P ∧ Inv T P ∧ (∀ b ∈ P, b ∈ L) ∧ P.length ≤ j

set_option maxHeartbeats 8000000 in
set_option maxRecDepth 100000 in
theorem ttells_walk {xa xn xd : Option Addr} {ca la cn ln cd ld : Nat} (L : List Bv) (ns : List Int) (D : List Bv) (w : World) (hL : Byss w xa ca L) (hns : Ints w xn cn ns) (hD : Byss w xd cd D)
    (jl : L.length = la) (jn : ns.length = ln) (jd : D.length = ld) (hg : Glob w) :
    Calls Tryd.prog 3 #[.slice xa la ca, .slice xn ln cn, .slice xd ld cd] w fun e w' => e = .returned (.bool true) ∧ Below w.heap.size w w' := by
  subst jl jn jd
  have HL := hid hL
  have HN := hid hns
  have HD := hid hD
  clear hL hns hD
  go_enter Tryd.func3, Tryd.ntmps3
  by_cases cl : 60 < L.length
  · have cl' : (60 : Int) < (L.length : Int) := by omega
    go_wp2
    go_ret
    exact ⟨rfl, Below.refl _ _⟩
  by_cases cd' : 60 < D.length
  · have cl' : (L.length : Int) ≤ 60 := by omega
    have cd'' : (60 : Int) < (D.length : Int) := by omega
    go_wp2
    go_ret
    exact ⟨rfl, Below.refl _ _⟩
  have cl' : (L.length : Int) ≤ 60 := by omega
  have cd'' : (D.length : Int) ≤ 60 := by omega
  go_upto_region 6 with (go_at_call 4; refine (new_at _).mono ?_; rintro e w2 ⟨rfl, k2, d2⟩)
  have S2 := hid (TrieS.new k2)
  have B2 := hid d2
  obtain ⟨tb, htb⟩ : ∃ tb, w.heap.size = tb := ⟨_, rfl⟩
  have htl := k2.lt
  clear k2 d2
  have CB := hid (begins_any (x := xa) (c := ca) (l := L.length) (y := xn) (d := cn) (m := ns.length) L ns w2 (HL.out.below B2.out) (HN.out.below B2.out) rfl rfl (Or.inl (by omega)))
  go_upto_region 7 with (go_at_call 5; refine CB.out.mono ?_; rintro e w3 ⟨xb, cb, rfl, hbg, d3⟩)
  obtain ⟨k, hk⟩ : ∃ k, min L.length ns.length = k := ⟨_, rfl⟩
  rw [hk] at hbg ⊢
  have hk60 : k ≤ 60 := by omega
  have HBG := hid hbg
  have B3 := hid (B2.out.trans (d3.mono B2.out.size))
  have hw3 : w.heap.size ≤ w3.heap.size := B3.out.size
  have hw23 : w2.heap.size ≤ w3.heap.size := d3.size
  have TL0 : TrieL w3 w3 w.heap.size .nil 0 := ⟨S2.out.below d3, by simp [Tn.ents], fun b hb => by simp [Tn.blks] at hb, Only.refl _ _⟩
  rw [htb] at TL0 htl
  have htb' : w.heap.size ≤ tb := by omega
  clear htb
  have HT0 := hid TL0
  clear hbg CB d3 TL0 S2
  go_wp2
  go_loopw [9, 10] (fun v i wr => TellRel w3 tb k (begN L ns k) v i wr) (fun _ i _ => k - (intOf i).toNat)
  case atStart => exact ⟨0, .nil, [], Nat.zero_le _, rfl, HT0.out, World.ownsRow_nil _ _ _ _, Inv.nil, fun b hb => (by cases hb), Nat.le_refl _⟩
  case round =>
    obtain ⟨j, T, P, hj, rfl, hT', hrow', hinv', hPin', hPl'⟩ := hrel
    have HT := hid hT'
    have HROW := hid hrow'
    have HINV := hid hinv'
    have HPin := hid hPin'
    have HO := hid hT'.only
    have BW := hid (hT'.only.below B3.out hw3 (fun b hb => by have : b = tb := (by simpa using hb); omega))
    have allin : Hid (∀ i, i < k → (begF L ns i).e.in w) := hid (fun i hi => by
      have : i < L.length := by omega
      unfold begF
      rw [List.getD_eq_getElem?_getD, List.getElem?_eq_getElem this]
      exact HL.out.2.2.1 _ (List.getElem_mem this))
    have Lin : Hid (∀ b ∈ begN L ns k, b.e.in w) := hid (fun b hb => by
      obtain ⟨i, hi, rfl⟩ := List.mem_map.1 hb
      exact allin.out i (List.mem_range.1 hi))
    clear hT' hrow' hinv' hPin'
    by_cases cj : j < k
    · have cj' : (j : Int) < (k : Int) := by omega
      obtain ⟨_, hcell⟩ := HBG.out
      rcases hcell with e0 | ⟨g, cur, rfl, hgB, hh, hc⟩
      · have := begN_len L ns k; rw [e0] at this; simp at this; omega
      have hjl : j < (begN L ns k).length := by rw [begN_len]; exact cj
      have hcj := hc j hjl
      have hmemE : (begN L ns k)[j] ∈ begN L ns k := List.getElem_mem hjl
      rw [begN_get] at hcj hmemE
      have hgl := heap_lt hh
      have hgt : g ≠ tb := by omega
      have HEin := hid (allin.out j cj)
      have HMEM := hid hmemE
      have HH3 := hid hh
      have HC := hid hcj
      clear hcj hmemE hc hh
      generalize begF L ns j = E at *
      have hhr : wr.heap[g]? = some (.cells cur 32 (0, 0)) := by rw [HO.out.block g hgl (by simpa using hgt)]; exact HH3.out
      have b0 : wr.cell? ⟨g, j * 3, none⟩ = some (.slice E.e.x E.e.A.length E.e.c) := by simp [World.cell?, hhr, HC.out.1, Bv.v]
      have b1 : wr.cell? ⟨g, j * 3 + 1, none⟩ = some (.int .i64 E.n) := by simp [World.cell?, hhr, HC.out.2.1]
      have b2 : wr.cell? ⟨g, j * 3 + 2, none⟩ = some (.int .i64 E.val) := by simp [World.cell?, hhr, HC.out.2.2]
      clear hhr
      cases cr : decide (RightB E) with
      | true =>
        have HRT : Hid (RightB E) := hid (of_decide_eq_true cr)
        have CR := hid (right_at true E.e E.n E.val wr HEin.out.1.2.1 cr)
        go_upto_region 13 with (go_at_call 6; refine CR.out.mono ?_; rintro e w4 ⟨rfl, d4⟩)
        have HT4 := hid (HT.out.grow d4)
        have HROW4 := hid (HROW.out.below d4)
        have hh4 : w4.heap[g]? = some (.cells cur 32 (0, 0)) := by rw [HT4.out.only.block g hgl (by simpa using hgt)]; exact HH3.out
        clear b0 b1 b2 CR d4 HT HROW
        have b0 : w4.cell? ⟨g, j * 3, none⟩ = some (.slice E.e.x E.e.A.length E.e.c) := by simp [World.cell?, hh4, HC.out.1, Bv.v]
        have b1 : w4.cell? ⟨g, j * 3 + 1, none⟩ = some (.int .i64 E.n) := by simp [World.cell?, hh4, HC.out.2.1]
        have b2 : w4.cell? ⟨g, j * 3 + 2, none⟩ = some (.int .i64 E.val) := by simp [World.cell?, hh4, HC.out.2.2]
        clear hh4
        obtain ⟨i0, hi, hz0, hz1, hz2⟩ := info_of_begin
        have hw34 : w3.heap.size ≤ w4.heap.size := HT4.out.only.size
        have hal : BRow (w4.alloc (.cells #[.slice E.e.x E.e.A.length E.e.c, .int .i64 E.n, .int .i64 E.val] 32)) w3.heap.size u9 P := HROW4.out.below ((Below.refl _ _).alloc (Nat.le_refl _) _)
        have HAL := hid hal
        clear hal
        go_upto_region 15 with (at_builtin; refine wpList_append_own_wide _ rfl _ _ 26 rfl w3.heap.size 32 i0 _ 3 40 Tryd.underlying26 hi hz0 hz1 hz2 rfl (by decide) u9 P.length _ rfl HAL.out ⟨w4.heap.size, 0, none⟩ 1 1 [.slice E.e.x E.e.A.length E.e.c, .int .i64 E.n, .int .i64 E.val] rfl rfl (cells_new w4 [.slice E.e.x E.e.A.length E.e.c, .int .i64 E.n, .int .i64 E.val] 32) (by simp [Value.oneCell']) (by unfold maxLen; omega) (by omega) (by simp; omega) ?_; intro v5 w5 hown5 hgr5 _)
        have HROWX : Hid (BRow w5 w3.heap.size v5 (P ++ [E])) := hid (by
          unfold BRow
          rw [List.length_append, List.flatMap_append]
          exact hown5)
        have HTX := hid ((HT4.out.grow ((Below.refl _ _).alloc (Nat.le_refl _) (.cells #[.slice E.e.x E.e.A.length E.e.c, .int .i64 E.n, .int .i64 E.val] 32))).append HAL.out hgr5 (Nat.le_refl _))
        have BWX := hid (HTX.out.only.below B3.out hw3 (fun b hb => by have : b = tb := (by simpa using hb); omega))
        have HPin2 : Hid (∀ b ∈ P ++ [E], b ∈ begN L ns k) := hid (fun b hb => by
          rcases List.mem_append.1 hb with q | q
          · exact HPin.out b q
          · have : b = E := (by simpa using q)
            rw [this]; exact HMEM.out)
        have HPL2 : Hid ((P ++ [E]).length ≤ j + 1) := hid (by simp; omega)
        clear hown5 hgr5 b0 b1 b2 hi hz0 hz1 hz2 i0 HAL HT4 HROW4 hw34
        -- region 15 on: the trie at w5 holds T; the row V holds P ++ [E]
        have CP := hid fun (u : World) (hu : Drawn w5 u) => put_law ((HTX.out).grow (hu.below _)) (x := E.e.x) (c := E.e.c) (l := E.e.A.length) E.e.A E.n E.val ((HEin.out.1.below BWX.out).below (hu.below _)) rfl (by omega)
        have hhx : w5.heap[g]? = some (.cells cur 32 (0, 0)) := by rw [HTX.out.only.block g hgl (by simpa using hgt)]; exact HH3.out
        have a0 : ∀ s' : Has g w5.heap[g]?, s'.val.cell? ⟨g, j * 3, none⟩ = some (.slice E.e.x E.e.A.length E.e.c) := fun s' => by rw [s'.cell]; simp [World.cell?, hhx, HC.out.1, Bv.v]
        have a1 : ∀ s' : Has g w5.heap[g]?, s'.val.cell? ⟨g, j * 3 + 1, none⟩ = some (.int .i64 E.n) := fun s' => by rw [s'.cell]; simp [World.cell?, hhx, HC.out.2.1]
        have a2 : ∀ s' : Has g w5.heap[g]?, s'.val.cell? ⟨g, j * 3 + 2, none⟩ = some (.int .i64 E.val) := fun s' => by rw [s'.cell]; simp [World.cell?, hhx, HC.out.2.2]
        have hNe : Nonempty (Has g w5.heap[g]?) := ⟨⟨w5, rfl⟩⟩
        clear hhx
        go_upto_region 15 with fail
        refine wp_region_forkA [0, 1, 2, 3, 4, 5, 6, 7, 8, 9, 10, 11, 12, 13, 14, 15, 17] (.one 16 (.one 18 (.one 19 .nil))) (fun u => ∃ s' : Has g w5.heap[g]?, u = s'.val) (by kernel_rfl) (by kernel_rfl) (by kernel_rfl) ⟨⟨w5.drew, rfl⟩, rfl⟩ ?_
        change wpQuiet _ _ _ _ [_, _, _, _, _, _, _, _, _, _, _, _, _, _, _, _, _] _
        repeat (go_big_quiet_step (fail))
        refine wpQuiet_nil ?_
        clear a0 a1 a2 hNe
        change stepL _ _ _ _ _ _ _ _ _
        refine stepL_at (by rfl) fun K Q' hK => ?_
        go_simp
        refine (CP.out _ ((Drawn.refl w5).more 1)).mono ?_
        intro e w6 hp
        have hp2 : e = .returned .nilIface ∧ ∃ T', TrieL w3 w6 tb T' (j + 1) ∧ Only (tb :: T.blks) (w5.drewN 1) w6 ∧ Inv T' (P ++ [E]) := by
          rcases hp with ⟨N, hN, _, _, rfl, T', hl, hu, ho⟩ | ⟨hbad, _⟩
          · exact ⟨rfl, T', hl, ho, HINV.out.put HRT.out hN hu⟩
          · exact absurd HRT.out hbad
        obtain ⟨rfl, T', hl6, ho6, hi6⟩ := hp2
        have hg6 : w6.heap[g]? = w5.heap[g]? := by
          rw [hl6.only.block g hgl (by simpa using hgt), HTX.out.only.block g hgl (by simpa using hgt)]
        refine hK _ _ (fun _ => ⟨⟨w6, hg6⟩, rfl⟩) ?_
        clear hK
        have BW6 := hid (hl6.only.below B3.out hw3 (fun b hb => by have : b = tb := (by simpa using hb); omega))
        have HROW6 := hid (((HROWX.out.below ((Drawn.refl w5).more 1 |>.below _))).put (((HTX.out).grow ((Drawn.refl w5).more 1 |>.below _)).st) ho6)
        have HL6 := hid hl6
        have HI6 := hid hi6
        clear hl6 ho6 hi6 CP
        change stepL _ _ _ _ _ _ _ _ _
        refine stepL_at (by rfl) fun K Q' hK => ?_
        go_simp
        refine (error_at 0 0 _ w6 (hg.below BW6.out) errV_none rfl).mono ?_
        rintro e w7 ⟨rfl, d7⟩
        have hg7 : w7.heap[g]? = w5.heap[g]? := by
          rw [d7.block g (by have := HL6.out.only.size; omega), hg6]
        refine hK _ _ (fun _ => ⟨⟨w7, hg7⟩, rfl⟩) ?_
        clear hK
        change stepL _ _ _ _ _ _ _ _ _
        refine stepL_at (by rfl) fun K Q' hK => ?_
        go_simp
        refine hK _ _ (fun _ => ⟨⟨w7, hg7⟩, rfl⟩) ?_
        clear hK
        refine treeL_nil ?_
        have HL7 := hid (HL6.out.grow d7)
        have HROW7 := hid (HROW6.out.below d7)
        have BW7 := hid (BW6.out.trans (d7.mono BW6.out.size))
        clear d7 hg6 hg7 HROW6 HL6 BW6
        obtain ⟨xp, cp, hve, hbp⟩ := HROW7.out.bgs
        have CLn := hid (tlen_at w7 tb _ _ HL7.out.st.root)
        obtain ⟨PL, hPL⟩ : ∃ PL, (P ++ [E]).length = PL := ⟨_, rfl⟩
        have hpl2 : (P ++ [E]).length ≤ j + 1 := HPL2.out
        rw [hPL] at hve hpl2
        have CKn := hid (kinds_any (l := PL) (P ++ [E]) w7 hbp (fun b hb => (Lin.out b (HPin2.out b hb)).below BW7.out) HI6.out.right hPL (by omega))
        have HVE := hid hve
        rw [hve]
        rw [HI6.out.num] at CLn
        obtain ⟨kk, hkk⟩ : ∃ kk, kN (P ++ [E]) (P ++ [E]).length = kk := ⟨_, rfl⟩
        rw [hkk] at CLn CKn
        clear hve hbp hkk hPL
        go_wp2_with (first | (go_at_call 9; refine CLn.out.mono ?_; rintro e w8 ⟨rfl, rfl⟩) | (go_at_call 10; refine CKn.out.mono ?_; rintro e w9 ⟨rfl, d9⟩))
        go_roundw
        case rel =>
          refine ⟨j + 1, T', P ++ [E], by omega, by go_num, HL7.out.grow (d9.below _), ?_, HI6.out, HPin2.out, HPL2.out⟩
          rw [← HVE.out]
          exact HROW7.out.below (d9.below _)
        case measure => simp [intOf]; omega
      | false =>
        have HRT : Hid (¬ RightB E) := hid (of_decide_eq_false cr)
        have CR := hid (right_at false E.e E.n E.val wr HEin.out.1.2.1 cr)
        go_upto_region 15 with (go_at_call 6; refine CR.out.mono ?_; rintro e w4 ⟨rfl, d4⟩)
        have HTX := hid (HT.out.grow d4)
        have HROWX := hid (HROW.out.below d4)
        have BWX := hid (HTX.out.only.below B3.out hw3 (fun b hb => by have : b = tb := (by simpa using hb); omega))
        have HPin2 := HPin
        have HPL2 : Hid (P.length ≤ j + 1) := hid (by omega)
        clear b0 b1 b2 CR d4 HT HROW
        -- region 15 on: the trie at w4 holds T; the row V holds P
        have CP := hid fun (u : World) (hu : Drawn w4 u) => put_law ((HTX.out).grow (hu.below _)) (x := E.e.x) (c := E.e.c) (l := E.e.A.length) E.e.A E.n E.val ((HEin.out.1.below BWX.out).below (hu.below _)) rfl (by omega)
        have hhx : w4.heap[g]? = some (.cells cur 32 (0, 0)) := by rw [HTX.out.only.block g hgl (by simpa using hgt)]; exact HH3.out
        have a0 : ∀ s' : Has g w4.heap[g]?, s'.val.cell? ⟨g, j * 3, none⟩ = some (.slice E.e.x E.e.A.length E.e.c) := fun s' => by rw [s'.cell]; simp [World.cell?, hhx, HC.out.1, Bv.v]
        have a1 : ∀ s' : Has g w4.heap[g]?, s'.val.cell? ⟨g, j * 3 + 1, none⟩ = some (.int .i64 E.n) := fun s' => by rw [s'.cell]; simp [World.cell?, hhx, HC.out.2.1]
        have a2 : ∀ s' : Has g w4.heap[g]?, s'.val.cell? ⟨g, j * 3 + 2, none⟩ = some (.int .i64 E.val) := fun s' => by rw [s'.cell]; simp [World.cell?, hhx, HC.out.2.2]
        have hNe : Nonempty (Has g w4.heap[g]?) := ⟨⟨w4, rfl⟩⟩
        clear hhx
        go_upto_region 15 with fail
        refine wp_region_forkA [0, 1, 2, 3, 4, 5, 6, 7, 8, 9, 10, 11, 12, 13, 14, 15, 17] (.one 16 (.one 18 (.one 19 .nil))) (fun u => ∃ s' : Has g w4.heap[g]?, u = s'.val) (by kernel_rfl) (by kernel_rfl) (by kernel_rfl) ⟨⟨w4.drew, rfl⟩, rfl⟩ ?_
        change wpQuiet _ _ _ _ [_, _, _, _, _, _, _, _, _, _, _, _, _, _, _, _, _] _
        repeat (go_big_quiet_step (fail))
        refine wpQuiet_nil ?_
        clear a0 a1 a2 hNe
        change stepL _ _ _ _ _ _ _ _ _
        refine stepL_at (by rfl) fun K Q' hK => ?_
        go_simp
        refine (CP.out _ ((Drawn.refl w4).more 1)).mono ?_
        intro e w6 hp
        have hp2 : e = .returned (errV 6) ∧ ∃ T', TrieL w3 w6 tb T' (j + 1) ∧ Only (tb :: T.blks) (w4.drewN 1) w6 ∧ Inv T' (P) := by
          rcases hp with ⟨N, hN, h1, h2, _⟩ | ⟨_, rfl, hl, rfl⟩
          · exact absurd ⟨h1, by omega, by omega⟩ HRT.out
          · exact ⟨rfl, T, hl, Only.refl _ _, HINV.out⟩
        obtain ⟨rfl, T', hl6, ho6, hi6⟩ := hp2
        have hg6 : w6.heap[g]? = w4.heap[g]? := by
          rw [hl6.only.block g hgl (by simpa using hgt), HTX.out.only.block g hgl (by simpa using hgt)]
        refine hK _ _ (fun _ => ⟨⟨w6, hg6⟩, rfl⟩) ?_
        clear hK
        have BW6 := hid (hl6.only.below B3.out hw3 (fun b hb => by have : b = tb := (by simpa using hb); omega))
        have HROW6 := hid (((HROWX.out.below ((Drawn.refl w4).more 1 |>.below _))).put (((HTX.out).grow ((Drawn.refl w4).more 1 |>.below _)).st) ho6)
        have HL6 := hid hl6
        have HI6 := hid hi6
        clear hl6 ho6 hi6 CP
        change stepL _ _ _ _ _ _ _ _ _
        refine stepL_at (by rfl) fun K Q' hK => ?_
        go_simp
        refine (error_at 6 6 _ w6 (hg.below BW6.out) rfl rfl).mono ?_
        rintro e w7 ⟨rfl, d7⟩
        have hg7 : w7.heap[g]? = w4.heap[g]? := by
          rw [d7.block g (by have := HL6.out.only.size; omega), hg6]
        refine hK _ _ (fun _ => ⟨⟨w7, hg7⟩, rfl⟩) ?_
        clear hK
        change stepL _ _ _ _ _ _ _ _ _
        refine stepL_at (by rfl) fun K Q' hK => ?_
        go_simp
        refine hK _ _ (fun _ => ⟨⟨w7, hg7⟩, rfl⟩) ?_
        clear hK
        refine treeL_nil ?_
        have HL7 := hid (HL6.out.grow d7)
        have HROW7 := hid (HROW6.out.below d7)
        have BW7 := hid (BW6.out.trans (d7.mono BW6.out.size))
        clear d7 hg6 hg7 HROW6 HL6 BW6
        obtain ⟨xp, cp, hve, hbp⟩ := HROW7.out.bgs
        have CLn := hid (tlen_at w7 tb _ _ HL7.out.st.root)
        obtain ⟨PL, hPL⟩ : ∃ PL, (P).length = PL := ⟨_, rfl⟩
        have hpl2 : (P).length ≤ j + 1 := HPL2.out
        rw [hPL] at hve hpl2
        have CKn := hid (kinds_any (l := PL) (P) w7 hbp (fun b hb => (Lin.out b (HPin2.out b hb)).below BW7.out) HI6.out.right hPL (by omega))
        have HVE := hid hve
        rw [hve]
        rw [HI6.out.num] at CLn
        obtain ⟨kk, hkk⟩ : ∃ kk, kN (P) (P).length = kk := ⟨_, rfl⟩
        rw [hkk] at CLn CKn
        clear hve hbp hkk hPL
        go_wp2_with (first | (go_at_call 9; refine CLn.out.mono ?_; rintro e w8 ⟨rfl, rfl⟩) | (go_at_call 10; refine CKn.out.mono ?_; rintro e w9 ⟨rfl, d9⟩))
        go_roundw
        case rel =>
          refine ⟨j + 1, T', P, by omega, by go_num, HL7.out.grow (d9.below _), ?_, HI6.out, HPin2.out, HPL2.out⟩
          rw [← HVE.out]
          exact HROW7.out.below (d9.below _)
        case measure => simp [intOf]; omega
    · have cj' : ¬ (j : Int) < (k : Int) := by omega
      obtain ⟨xp, cp, hve, hbp⟩ := HROW.out.bgs
      rw [hve]
      obtain ⟨w5, hw5⟩ : ∃ u, u = wr := ⟨_, rfl⟩
      subst hw5
      have HBP := hid hbp
      have hPl60 : P.length ≤ 60 := by omega
      clear hve hbp HROW HO HBG
      go_wp2
      go_loopw [13] (fun i wr => ∃ j2, j2 ≤ D.length ∧ i = .int .i64 (j2 : Int) ∧ Below w5.heap.size w5 wr) (fun i _ => D.length - (intOf i).toNat)
      case atStart => exact ⟨0, Nat.zero_le _, rfl, Below.refl _ _⟩
      case round =>
        obtain ⟨j2, hj2, rfl, hb5⟩ := hrel
        have H5 := hid hb5
        have BWR := hid (BW.out.trans (hb5.mono BW.out.size))
        by_cases c2 : j2 < D.length
        · have c2' : (j2 : Int) < (D.length : Int) := by omega
          obtain ⟨_, _, hDin, dD⟩ := HD.out
          rcases dD with dD | ⟨bd, od, rfl, hbd, qd⟩
          · rw [dD] at c2; simp at c2
          have q1 := qd j2 c2
          have HE2 := hid (hDin _ (List.getElem_mem c2))
          clear qd hDin hb5
          generalize D[j2] = E at *
          have q1' : w.cell? ⟨bd, od + j2, none⟩ = some (.slice E.x E.A.length E.c) := q1
          have HQ1 : Hid (∀ u, Below w.heap.size w u → u.cell? ⟨bd, od + j2, none⟩ = some (.slice E.x E.A.length E.c)) := hid (fun u hu => by rw [hu.cell (p := ⟨bd, od + j2, none⟩) hbd]; exact q1')
          clear q1 q1'
          have z0 := HQ1.out wr BWR.out
          obtain ⟨q, hq⟩ : ∃ q, padN (E.A.take 16) = q := ⟨_, rfl⟩
          obtain ⟨m, hm⟩ : ∃ m, 8 * (min E.A.length 16) = m := ⟨_, rfl⟩
          have HLG := hid fun (b : Int) (hb : LongAt P E.A P.length b) => long_get HINV.out HT.out.st.wf hq hm hb
          rcases hg1 : T.get q m none with _ | ⟨k1, v1⟩
          all_goals
            rw [hg1] at HLG
            have CG1 := hid (tget_q tb T q m (x := E.x) (c := E.c) (l := E.A.length) E.A wr (HT.out.st.below H5.out) (HE2.out.1.take_of BWR.out) rfl HE2.out.1.2.1 HE2.out.1.1 HE2.out.2 rfl hq hm _ hg1)
            go_upto_region 22 with (go_at_call 11; refine CG1.out.mono ?_; rintro e w6 ⟨rfl, d6⟩; rw [getV])
            have BW6 := hid (BWR.out.trans (d6.mono BWR.out.size))
            have H6 := hid (H5.out.trans (d6.mono H5.out.size))
            clear z0 CG1 d6
            have z0 := HQ1.out w6 BW6.out
            have CL := hid (longest_any (l := P.length) (lq := E.A.length) P E.A w6 (HBP.out.below H6.out) (fun b hb => (Lin.out b (HPin.out b hb)).below BW6.out) HINV.out.right rfl (by omega) (HE2.out.1.below BW6.out) rfl)
            go_upto_region 23 with (go_at_call 12; refine CL.out.mono ?_; rintro e w7 ⟨b, rfl, hlo, d7⟩)
            have H7 := hid (H6.out.trans (d7.mono H6.out.size))
            have hlg := HLG.out b hlo
            clear z0 CL d7 hlo HLG
          · have hb1 : b = -1 := by
              rcases hlg with ⟨e, _⟩ | ⟨t, ht, e, e2⟩
              · exact e
              · cases e2
            subst hb1
            clear hlg
            go_wp2
            go_roundw
            case rel => exact ⟨j2 + 1, by omega, by go_num, H7.out⟩
            case measure => simp [intOf]; omega
          · obtain ⟨t, ht, rfl, e1, e2⟩ : ∃ t, ∃ ht : t < P.length, b = (t : Int) ∧ P[t].n = (k1 : Int) ∧ P[t].val = v1 := by
              rcases hlg with ⟨_, e⟩ | ⟨t, ht, e, e2⟩
              · cases e
              · simp only [Option.some.injEq, Prod.mk.injEq] at e2
                have := (HINV.out.right _ (List.getElem_mem ht)).2.1
                exact ⟨t, ht, e, by omega, e2.2.symm⟩
            obtain ⟨gp, rfl, hgp, _, p1, p2⟩ := (HBP.out.below H7.out).at ht
            rw [e1] at p1
            rw [e2] at p2
            have tb0 : ¬ (t : Int) < 0 := by omega
            have tb1 : (0 : Int) ≤ (t : Int) := by omega
            have tl : (t : Int) < (P.length : Int) := by omega
            clear hlg e1 e2
            go_wp2
            go_roundw
            case rel => exact ⟨j2 + 1, by omega, by go_num, H7.out⟩
            case measure => simp [intOf]; omega
        · have c2' : ¬ (j2 : Int) < (D.length : Int) := by omega
          go_wp2_with (go_at_call 13; refine (tried_any _).mono ?_; rintro e w8 ⟨rfl, d8⟩)
          go_ret
          exact ⟨rfl, BWR.out.trans (d8.mono BWR.out.size)⟩

end Go.Proofs.YtoakpkpdipgfoaaDoor
