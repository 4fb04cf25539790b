/-
  The walk of package trie's lay.
-/
import Derived.Test.YtoakpkpdipgfoaaTrLay
namespace Go.Proofs.Ytoakpkpdipgfoaa
open Go.RowKit Go.Deep

/-- What lay hands back: a node of the beginning, in a trie of the same entries. -/
def LaidP (w : World) (tb : Nat) (cnt : Int) (k : List Int) (n : Nat) (T : Tn) (e : Ending) (w' : World) : Prop :=
  ∃ c b a v g l r, e = .returned (.pointer (some ⟨b, 0, none⟩)) ∧ LayAt w w' tb cnt k n T c (.node b a n v g l r) ∧ Al a k n

theorem drewN_below (w : World) (n : Nat) : Below w.heap.size w (w.drewN n) := (show Drawn w (w.drewN n) from ⟨n, rfl⟩).below _

theorem ptr_get {b : Nat} : ptrV (some b) = .pointer (some ⟨b, 0, none⟩) := rfl

set_option maxHeartbeats 4000000 in
set_option maxRecDepth 100000 in
theorem lay_at (tb : Nat) (cnt : Int) (k : List Int) (n : Nat) (T : Tn) (w : World) (hk : k.length = 16) (bk : ∀ x ∈ k, 0 ≤ x ∧ x ≤ 255) (hn : n ≤ 128)
    (hwf : T.wf) (hm : Mem w T) (hr : Bl 46 w tb #[ptrV T.ptr, .int .i64 cnt]) (hnod : (tb :: T.blks).Nodup) :
    Calls Try.prog 15 #[.pointer (some ⟨tb, 0, none⟩), .agg #[.int .u8 (byt k 0), .int .u8 (byt k 1), .int .u8 (byt k 2), .int .u8 (byt k 3), .int .u8 (byt k 4), .int .u8 (byt k 5), .int .u8 (byt k 6), .int .u8 (byt k 7), .int .u8 (byt k 8), .int .u8 (byt k 9), .int .u8 (byt k 10), .int .u8 (byt k 11), .int .u8 (byt k 12), .int .u8 (byt k 13), .int .u8 (byt k 14), .int .u8 (byt k 15), .int .i64 (n : Int)]] w (LaidP w tb cnt k n T) := by
  have B0 : Below w.heap.size w (w.alloc (.cells #[.int .u8 (byt k 0), .int .u8 (byt k 1), .int .u8 (byt k 2), .int .u8 (byt k 3), .int .u8 (byt k 4), .int .u8 (byt k 5), .int .u8 (byt k 6), .int .u8 (byt k 7), .int .u8 (byt k 8), .int .u8 (byt k 9), .int .u8 (byt k 10), .int .u8 (byt k 11), .int .u8 (byt k 12), .int .u8 (byt k 13), .int .u8 (byt k 14), .int .u8 (byt k 15), .int .i64 (n : Int)] 52)) := (Below.refl w.heap.size w).alloc (Nat.le_refl _) _
  have k1 := Bl.new 52 w #[.int .u8 (byt k 0), .int .u8 (byt k 1), .int .u8 (byt k 2), .int .u8 (byt k 3), .int .u8 (byt k 4), .int .u8 (byt k 5), .int .u8 (byt k 6), .int .u8 (byt k 7), .int .u8 (byt k 8), .int .u8 (byt k 9), .int .u8 (byt k 10), .int .u8 (byt k 11), .int .u8 (byt k 12), .int .u8 (byt k 13), .int .u8 (byt k 14), .int .u8 (byt k 15), .int .i64 (n : Int)]
  have hinf : Hid ((Try.prog.info? 52).map (·.size) = some 17) := hid (by kernel_rfl)
  have hout : w.heap.size ∉ tb :: T.blks := fun q => by
    rcases List.mem_cons.1 q with e | e
    · have := hr.lt; omega
    · have := hm.lt _ e; omega
  have HS := hid (((LayAt.start k n hwf hm hr hnod).grow B0).base (w0 := w) (Below.refl _ _))
  have HL0 := hid (LayAt.start k n hwf (hm.same (fun b hb => B0.block b (hm.lt b hb))) (hr.below B0) hnod)
  have HK := hid k1
  have HB0 := hid B0
  clear hwf hm hr hnod k1 B0 HS
  go_enter Try.func15, Try.ntmps15
  go_upto_region 1 with fail
  generalize w.alloc (.cells #[.int .u8 (byt k 0), .int .u8 (byt k 1), .int .u8 (byt k 2), .int .u8 (byt k 3), .int .u8 (byt k 4), .int .u8 (byt k 5), .int .u8 (byt k 6), .int .u8 (byt k 7), .int .u8 (byt k 8), .int .u8 (byt k 9), .int .u8 (byt k 10), .int .u8 (byt k 11), .int .u8 (byt k 12), .int .u8 (byt k 13), .int .u8 (byt k 14), .int .u8 (byt k 15), .int .i64 (n : Int)] 52) = w1 at *
  go_wp2
  go_loopw [5] (fun v wr => ∃ c t, v = .pointer (some (slotA tb c)) ∧ LayAt w1 wr tb cnt k n T c t) (fun v wr => layM tb v wr)
  case atStart => exact ⟨[], T, rfl, HL0.out⟩
  case round =>
    clear HL0
    obtain ⟨c, t, rfl, HL'⟩ := hrel
    have HL := hid HL'
    have HM := hid HL'.meas
    obtain ⟨y0, y1⟩ := HL'.slot
    have y2 := HL'.slotLt
    have K1 := hid (HK.out.only HL'.only hout)
    clear HL'
    obtain ⟨sb, so, hsa⟩ : ∃ sb so, slotA tb c = ⟨sb, so, none⟩ := ⟨(slotA tb c).block, (slotA tb c).off, by cases c <;> rfl⟩
    rw [hsa] at y0 y1 y2 HM ⊢
    have HSA := hid hsa
    simp only at y2
    clear hsa
    cases t with
    | nil =>
      have y0' : wr.cell? ⟨sb, so, none⟩ = some (.pointer none) := y0
      clear y0
      have HLD := hid (beg_range K1.out)
      have y3 : sb ≠ wr.heap.size := by omega
      go_wp2_with (refine wpList_load_mid rfl 52 (.tmp 3) rfl w.heap.size 0 rfl [.int .u8 (byt k 0), .int .u8 (byt k 1), .int .u8 (byt k 2), .int .u8 (byt k 3), .int .u8 (byt k 4), .int .u8 (byt k 5), .int .u8 (byt k 6), .int .u8 (byt k 7), .int .u8 (byt k 8), .int .u8 (byt k 9), .int .u8 (byt k 10), .int .u8 (byt k 11), .int .u8 (byt k 12), .int .u8 (byt k 13), .int .u8 (byt k 14), .int .u8 (byt k 15), .int .i64 (n : Int)] _ HLD.out Try.underlying52 rfl hinf.out ?_)
      go_ret
      refine ⟨c, wr.heap.size, k, 0, false, .nil, .nil, rfl, ?_, Al.refl _ _⟩
      rw [← World.setCell_alloc_past _ _ _ _ y2]
      have := HL.out.leaf (B := wr.heap.size) ((Below.refl wr.heap.size wr).alloc (Nat.le_refl _) (.cells #[.int .u8 (byt k 0), .int .u8 (byt k 1), .int .u8 (byt k 2), .int .u8 (byt k 3), .int .u8 (byt k 4), .int .u8 (byt k 5), .int .u8 (byt k 6), .int .u8 (byt k 7), .int .u8 (byt k 8), .int .u8 (byt k 9), .int .u8 (byt k 10), .int .u8 (byt k 11), .int .u8 (byt k 12), .int .u8 (byt k 13), .int .u8 (byt k 14), .int .u8 (byt k 15), .int .i64 (n : Int), .int .i64 0, .bool false, .pointer none, .pointer none] 56)) hn hk bk (Nat.le_refl _) (Bl.new _ _ _)
      rw [HSA.out] at this
      exact this.base HB0.out
    | node b a m v g l r =>
      have y0' : wr.cell? ⟨sb, so, none⟩ = some (.pointer (some ⟨b, 0, none⟩)) := y0
      clear y0
      have hw := (wf_sub HL.out.wf).1.1
      have hm128 := hw.1
      have HBA := hid hw.2.2
      have nb := ((mem_plug _ _ _).1 HL.out.mem).2.1
      have HNB := hid nb
      have nl := nb.lt
      obtain ⟨s, hs⟩ : ∃ s, comU a k (min m n) = s := ⟨_, rfl⟩
      have HCS := hid hs
      have hsm : s ≤ m := by have := comU_le a k (min m n); omega
      have HSN : Hid (s ≤ n) := hid (by have := comU_le a k (min m n); omega)
      have HA : Hid (Al a k s) := hid (by rw [← hs]; exact comU_al a k _)
      have CC := hid (fun u : World => common_at a k m n s u hw.2.2 bk hm128 hn hs)
      have hl1 : ∀ s' : Kept wr.heap.size wr, (Instr.loadAt 52 (.pointer (some ⟨b, 0, none⟩))).run Try.prog s'.val = .ok (.agg #[.int .u8 (byt a 0), .int .u8 (byt a 1), .int .u8 (byt a 2), .int .u8 (byt a 3), .int .u8 (byt a 4), .int .u8 (byt a 5), .int .u8 (byt a 6), .int .u8 (byt a 7), .int .u8 (byt a 8), .int .u8 (byt a 9), .int .u8 (byt a 10), .int .u8 (byt a 11), .int .u8 (byt a 12), .int .u8 (byt a 13), .int .u8 (byt a 14), .int .u8 (byt a 15), .int .i64 (m : Int)]) s'.val := fun s' =>
        run_loadAt_mid s'.val b 0 52 [.int .u8 (byt a 0), .int .u8 (byt a 1), .int .u8 (byt a 2), .int .u8 (byt a 3), .int .u8 (byt a 4), .int .u8 (byt a 5), .int .u8 (byt a 6), .int .u8 (byt a 7), .int .u8 (byt a 8), .int .u8 (byt a 9), .int .u8 (byt a 10), .int .u8 (byt a 11), .int .u8 (byt a 12), .int .u8 (byt a 13), .int .u8 (byt a 14), .int .u8 (byt a 15), .int .i64 (m : Int)] _ (node_range (HNB.out.kept nl s')) Try.underlying52 rfl hinf.out
      have hl2 : ∀ s' : Kept wr.heap.size wr, (Instr.loadAt 52 (.pointer (some ⟨w.heap.size, 0, none⟩))).run Try.prog s'.val = .ok (.agg #[.int .u8 (byt k 0), .int .u8 (byt k 1), .int .u8 (byt k 2), .int .u8 (byt k 3), .int .u8 (byt k 4), .int .u8 (byt k 5), .int .u8 (byt k 6), .int .u8 (byt k 7), .int .u8 (byt k 8), .int .u8 (byt k 9), .int .u8 (byt k 10), .int .u8 (byt k 11), .int .u8 (byt k 12), .int .u8 (byt k 13), .int .u8 (byt k 14), .int .u8 (byt k 15), .int .i64 (n : Int)]) s'.val := fun s' =>
        run_loadAt_mid s'.val w.heap.size 0 52 [.int .u8 (byt k 0), .int .u8 (byt k 1), .int .u8 (byt k 2), .int .u8 (byt k 3), .int .u8 (byt k 4), .int .u8 (byt k 5), .int .u8 (byt k 6), .int .u8 (byt k 7), .int .u8 (byt k 8), .int .u8 (byt k 9), .int .u8 (byt k 10), .int .u8 (byt k 11), .int .u8 (byt k 12), .int .u8 (byt k 13), .int .u8 (byt k 14), .int .u8 (byt k 15), .int .i64 (n : Int)] _ (beg_range (K1.out.kept K1.out.lt s')) Try.underlying52 rfl hinf.out
      have hNe : Nonempty (Kept wr.heap.size wr) := ⟨⟨wr, Below.refl _ _⟩⟩
      clear nb hw hs
      go_upto_region 4 with fail
      refine wp_region_forkA [0, 1, 2, 3, 4] (.one 5 (.one 6 .nil)) (fun u => ∃ s' : Kept wr.heap.size wr, u = s'.val) (by kernel_rfl) (by kernel_rfl) (by kernel_rfl) ⟨⟨_, (Below.refl wr.heap.size wr).drew⟩, rfl⟩ ?_
      change wpQuiet _ _ _ _ [_, _, _, _, _] _
      repeat (go_big_quiet_step (fail))
      refine wpQuiet_load 52 (.tmp 20) rfl _ _ rfl (fun u hu => by obtain ⟨s', rfl⟩ := hu; exact hl1 s') ?_
      simp only [Act.put, List.setIfInBounds_toArray, List.set_cons_succ, List.set_cons_zero]
      refine wpQuiet_load 52 (.tmp 3) rfl _ _ rfl (fun u hu => by obtain ⟨s', rfl⟩ := hu; exact hl2 s') ?_
      simp only [Act.put, List.setIfInBounds_toArray, List.set_cons_succ, List.set_cons_zero]
      refine wpQuiet_nil ?_
      have HB1 := Below.drew (Below.refl wr.heap.size wr)
      change stepL _ _ _ _ _ _ _ _ _
      refine stepL_at (by rfl) fun K Q' hK => ?_
      go_simp
      refine (CC.out _).mono ?_
      rintro e w4 ⟨rfl, d4⟩
      have BW : Below wr.heap.size wr w4 := HB1.trans d4
      refine hK _ _ (fun _ => ⟨⟨_, BW⟩, rfl⟩) ?_
      clear hK
      change stepL _ _ _ _ _ _ _ _ _
      refine stepL_at (by rfl) fun K Q' hK => ?_
      go_simp
      refine hK _ _ (fun _ => ⟨⟨_, BW⟩, rfl⟩) ?_
      clear hK
      refine treeL_nil ?_
      have HL4 := hid (HL.out.grow BW)
      obtain ⟨z0, z1⟩ := HL4.out.slot
      have z2 := HL4.out.slotLt
      rw [HSA.out] at z0 z1 z2
      have z0' : w4.cell? ⟨sb, so, none⟩ = some (.pointer (some ⟨b, 0, none⟩)) := z0
      simp only at z2
      have nb := HNB.out.below BW
      have HN4 := hid nb
      have z3 : w4.cell? ⟨b, 16, none⟩ = some (.int .i64 (m : Int)) := nb.cell (i := 16) rfl
      clear nb z0 BW d4 HB1 hl1 hl2 hNe y0' y1 y2 nl HNB CC K1 HL
      by_cases cs : s < m
      · obtain ⟨d, hd⟩ : ∃ d : Bool, bitN a s = if d then 1 else 0 := by
          rcases bitN_two a s with e | e
          · exact ⟨false, by rw [e]; rfl⟩
          · exact ⟨true, by rw [e]; rfl⟩
        have CF := hid (fork_at d b a (m : Int) s _ _ _ _ w4 HN4.out HBA.out (by omega) hd)
        have HD := hid hd
        clear hd
        go_upto_region 6 with fail
        go_upto_region 7 with (go_at_call 20; refine CF.out.mono ?_; rintro e w5 ⟨rfl, k5, d5⟩)
        have hz5 := k5.lt
        have Z0 : w5.cell? ⟨sb, so, none⟩ = some (.pointer (some ⟨b, 0, none⟩)) := by rw [d5.cell (p := ⟨sb, so, none⟩) z2]; exact z0'
        have Z1 : w5.frozen? ⟨sb, so, none⟩ = false := by rw [d5.frozen (p := ⟨sb, so, none⟩) z2]; exact z1
        have HF := HL4.out.fork d5 HCS.out cs HD.out (Nat.le_refl _) k5
        rw [HSA.out] at HF
        have HF5 := hid HF
        clear HF k5 d5 z0' z1 z3 CF HN4 HL4
        go_upto_region 8 with fail
        generalize w5.setCell ⟨sb, so, none⟩ (.pointer (some ⟨w4.heap.size, 0, none⟩)) = w6 at *
        generalize w4.heap.size = bn at *
        clear Z0 Z1 hz5
        cases d with
        | false =>
          have HX : Hid (LayAt w1 w6 tb cnt k n T c (.node bn a s 0 false (.node b a m v g l r) .nil)) := HF5
          clear HF5 HD
          -- HX: the trie; the node at bn has the first s bits
          have xn := ((mem_plug _ _ _).1 HX.out.mem).2.1
          have HXN := hid xn
          have xl := xn.lt
          have x0 : w6.cell? ⟨bn, 16, none⟩ = some (.int .i64 (s : Int)) := xn.cell (i := 16) rfl
          have KX := hid (HK.out.only HX.out.only hout)
          have x1 : w6.cell? ⟨w.heap.size, 16, none⟩ = some (.int .i64 (n : Int)) := KX.out.cell (i := 16) rfl
          clear xn
          by_cases ce : s = n
          · have ce' : ((s : Int) == (n : Int)) = true := by rw [ce]; simp
            go_upto_region 8 with fail
            go_quiet (fail)
            go_wp2
            go_ret
            refine ⟨c, bn, a, 0, false, (.node b a m v g l r), .nil, rfl, ?_, by rw [← ce]; exact HA.out⟩
            have := (HX.out.grow (drewN_below w6 nq)).base HB0.out
            rw [ce] at this
            exact this
          · have ce' : ((s : Int) == (n : Int)) = false := by simpa using (fun q => ce (by omega))
            have sxn : s < n := by have := HSN.out; omega
            go_upto_region 8 with fail
            go_quiet (fail)
            go_upto_region 10 with fail
            have HX2 := hid (HX.out.grow (drewN_below w6 nq))
            have K2 := hid (KX.out.below (drewN_below w6 nq))
            have xn2 : Bl 56 (w6.drewN nq) bn _ := HXN.out.below (drewN_below w6 nq)
            have hdw : (w6.drewN nq).heap.size = w6.heap.size := rfl
            rw [← hdw] at xl
            clear HX x0 x1 ce' hdw KX HXN
            generalize w6.drewN nq = w7 at *
            have hl1 : ∀ s' : Kept w7.heap.size w7, s'.val.cell? ⟨bn, 16, none⟩ = some (.int .i64 (s : Int)) := fun s' => (xn2.kept xl s').cell (i := 16) rfl
            have hl2 : ∀ s' : Kept w7.heap.size w7, (Instr.loadAt 52 (.pointer (some ⟨w.heap.size, 0, none⟩))).run Try.prog s'.val = .ok (.agg #[.int .u8 (byt k 0), .int .u8 (byt k 1), .int .u8 (byt k 2), .int .u8 (byt k 3), .int .u8 (byt k 4), .int .u8 (byt k 5), .int .u8 (byt k 6), .int .u8 (byt k 7), .int .u8 (byt k 8), .int .u8 (byt k 9), .int .u8 (byt k 10), .int .u8 (byt k 11), .int .u8 (byt k 12), .int .u8 (byt k 13), .int .u8 (byt k 14), .int .u8 (byt k 15), .int .i64 (n : Int)]) s'.val := fun s' =>
              run_loadAt_mid s'.val w.heap.size 0 52 [.int .u8 (byt k 0), .int .u8 (byt k 1), .int .u8 (byt k 2), .int .u8 (byt k 3), .int .u8 (byt k 4), .int .u8 (byt k 5), .int .u8 (byt k 6), .int .u8 (byt k 7), .int .u8 (byt k 8), .int .u8 (byt k 9), .int .u8 (byt k 10), .int .u8 (byt k 11), .int .u8 (byt k 12), .int .u8 (byt k 13), .int .u8 (byt k 14), .int .u8 (byt k 15), .int .i64 (n : Int)] _ (beg_range (K2.out.kept K2.out.lt s')) Try.underlying52 rfl hinf.out
            have hNe : Nonempty (Kept w7.heap.size w7) := ⟨⟨w7, Below.refl _ _⟩⟩
            clear xn2 K2
            have hbit : bitN k s = 0 ∨ bitN k s = 1 := bitN_two k s
            rcases hbit with hbit | hbit
            all_goals
              have HBT := hid hbit
              have CB := hid (fun u : World => bit_at k (n : Int) s u bk (by omega))
              rw [hbit] at CB
              clear hbit
              refine wp_region_forkA [0, 1, 2, 3, 4, 5, 6, 8, 9] (.one 7 (.one 10 (.one 11 .nil))) (fun u => ∃ s' : Kept w7.heap.size w7, u = s'.val) (by kernel_rfl) (by kernel_rfl) (by kernel_rfl) ⟨⟨_, (Below.refl w7.heap.size w7).drew⟩, rfl⟩ ?_
              change wpQuiet _ _ _ _ [_, _, _, _, _, _, _, _, _] _
              go_big_quiet_step (fail)
              refine wpQuiet_load 52 (.tmp 3) rfl _ _ rfl (fun u hu => by obtain ⟨s', rfl⟩ := hu; exact hl2 s') ?_
              simp only [Act.put, List.setIfInBounds_toArray, List.set_cons_succ, List.set_cons_zero]
              repeat (go_big_quiet_step (fail))
              refine wpQuiet_nil ?_
              have HB1 := Below.drew (Below.refl w7.heap.size w7)
              change stepL _ _ _ _ _ _ _ _ _
              refine stepL_at (by rfl) fun K Q' hK => ?_
              go_simp
              refine (CB.out _).mono ?_
              rintro e w8 ⟨rfl, d8⟩
              have BW : Below w7.heap.size w7 w8 := HB1.trans d8
              refine hK _ _ (fun _ => ⟨⟨_, BW⟩, rfl⟩) ?_
              clear hK
              change stepL _ _ _ _ _ _ _ _ _
              refine stepL_at (by rfl) fun K Q' hK => ?_
              go_simp
              refine hK _ _ (fun _ => ⟨⟨_, BW⟩, rfl⟩) ?_
              clear hK
              change stepL _ _ _ _ _ _ _ _ _
              refine stepL_at (by rfl) fun K Q' hK => ?_
              go_simp
              refine hK _ _ (fun _ => ⟨⟨_, BW⟩, rfl⟩) ?_
              clear hK
              refine treeL_nil ?_
              have HX8 := hid (HX2.out.grow BW)
              clear HX2 BW d8 HB1 CB hl1 hl2
            · have HD := hid (HX8.out.down sxn HA.out false HBT.out)
              go_wp2
              go_roundw
              case rel => exact ⟨_, _, rfl, HD.out⟩
              case measure =>
                rw [← HSA.out] at HM
                have q1 := HD.out.meas
                have q2 := HD.out.less hn
                simp only [slotA, Bool.false_eq_true, if_false] at q1
                rw [← HSA.out, HM.out, q1]
                exact q2
            · have HD := hid (HX8.out.down sxn HA.out true HBT.out)
              go_wp2
              go_roundw
              case rel => exact ⟨_, _, rfl, HD.out⟩
              case measure =>
                rw [← HSA.out] at HM
                have q1 := HD.out.meas
                have q2 := HD.out.less hn
                simp only [slotA, if_true] at q1
                rw [← HSA.out, HM.out, q1]
                exact q2
        | true =>
          have HX : Hid (LayAt w1 w6 tb cnt k n T c (.node bn a s 0 false .nil (.node b a m v g l r))) := HF5
          clear HF5 HD
          -- HX: the trie; the node at bn has the first s bits
          have xn := ((mem_plug _ _ _).1 HX.out.mem).2.1
          have HXN := hid xn
          have xl := xn.lt
          have x0 : w6.cell? ⟨bn, 16, none⟩ = some (.int .i64 (s : Int)) := xn.cell (i := 16) rfl
          have KX := hid (HK.out.only HX.out.only hout)
          have x1 : w6.cell? ⟨w.heap.size, 16, none⟩ = some (.int .i64 (n : Int)) := KX.out.cell (i := 16) rfl
          clear xn
          by_cases ce : s = n
          · have ce' : ((s : Int) == (n : Int)) = true := by rw [ce]; simp
            go_upto_region 8 with fail
            go_quiet (fail)
            go_wp2
            go_ret
            refine ⟨c, bn, a, 0, false, .nil, (.node b a m v g l r), rfl, ?_, by rw [← ce]; exact HA.out⟩
            have := (HX.out.grow (drewN_below w6 nq)).base HB0.out
            rw [ce] at this
            exact this
          · have ce' : ((s : Int) == (n : Int)) = false := by simpa using (fun q => ce (by omega))
            have sxn : s < n := by have := HSN.out; omega
            go_upto_region 8 with fail
            go_quiet (fail)
            go_upto_region 10 with fail
            have HX2 := hid (HX.out.grow (drewN_below w6 nq))
            have K2 := hid (KX.out.below (drewN_below w6 nq))
            have xn2 : Bl 56 (w6.drewN nq) bn _ := HXN.out.below (drewN_below w6 nq)
            have hdw : (w6.drewN nq).heap.size = w6.heap.size := rfl
            rw [← hdw] at xl
            clear HX x0 x1 ce' hdw KX HXN
            generalize w6.drewN nq = w7 at *
            have hl1 : ∀ s' : Kept w7.heap.size w7, s'.val.cell? ⟨bn, 16, none⟩ = some (.int .i64 (s : Int)) := fun s' => (xn2.kept xl s').cell (i := 16) rfl
            have hl2 : ∀ s' : Kept w7.heap.size w7, (Instr.loadAt 52 (.pointer (some ⟨w.heap.size, 0, none⟩))).run Try.prog s'.val = .ok (.agg #[.int .u8 (byt k 0), .int .u8 (byt k 1), .int .u8 (byt k 2), .int .u8 (byt k 3), .int .u8 (byt k 4), .int .u8 (byt k 5), .int .u8 (byt k 6), .int .u8 (byt k 7), .int .u8 (byt k 8), .int .u8 (byt k 9), .int .u8 (byt k 10), .int .u8 (byt k 11), .int .u8 (byt k 12), .int .u8 (byt k 13), .int .u8 (byt k 14), .int .u8 (byt k 15), .int .i64 (n : Int)]) s'.val := fun s' =>
              run_loadAt_mid s'.val w.heap.size 0 52 [.int .u8 (byt k 0), .int .u8 (byt k 1), .int .u8 (byt k 2), .int .u8 (byt k 3), .int .u8 (byt k 4), .int .u8 (byt k 5), .int .u8 (byt k 6), .int .u8 (byt k 7), .int .u8 (byt k 8), .int .u8 (byt k 9), .int .u8 (byt k 10), .int .u8 (byt k 11), .int .u8 (byt k 12), .int .u8 (byt k 13), .int .u8 (byt k 14), .int .u8 (byt k 15), .int .i64 (n : Int)] _ (beg_range (K2.out.kept K2.out.lt s')) Try.underlying52 rfl hinf.out
            have hNe : Nonempty (Kept w7.heap.size w7) := ⟨⟨w7, Below.refl _ _⟩⟩
            clear xn2 K2
            have hbit : bitN k s = 0 ∨ bitN k s = 1 := bitN_two k s
            rcases hbit with hbit | hbit
            all_goals
              have HBT := hid hbit
              have CB := hid (fun u : World => bit_at k (n : Int) s u bk (by omega))
              rw [hbit] at CB
              clear hbit
              refine wp_region_forkA [0, 1, 2, 3, 4, 5, 6, 8, 9] (.one 7 (.one 10 (.one 11 .nil))) (fun u => ∃ s' : Kept w7.heap.size w7, u = s'.val) (by kernel_rfl) (by kernel_rfl) (by kernel_rfl) ⟨⟨_, (Below.refl w7.heap.size w7).drew⟩, rfl⟩ ?_
              change wpQuiet _ _ _ _ [_, _, _, _, _, _, _, _, _] _
              go_big_quiet_step (fail)
              refine wpQuiet_load 52 (.tmp 3) rfl _ _ rfl (fun u hu => by obtain ⟨s', rfl⟩ := hu; exact hl2 s') ?_
              simp only [Act.put, List.setIfInBounds_toArray, List.set_cons_succ, List.set_cons_zero]
              repeat (go_big_quiet_step (fail))
              refine wpQuiet_nil ?_
              have HB1 := Below.drew (Below.refl w7.heap.size w7)
              change stepL _ _ _ _ _ _ _ _ _
              refine stepL_at (by rfl) fun K Q' hK => ?_
              go_simp
              refine (CB.out _).mono ?_
              rintro e w8 ⟨rfl, d8⟩
              have BW : Below w7.heap.size w7 w8 := HB1.trans d8
              refine hK _ _ (fun _ => ⟨⟨_, BW⟩, rfl⟩) ?_
              clear hK
              change stepL _ _ _ _ _ _ _ _ _
              refine stepL_at (by rfl) fun K Q' hK => ?_
              go_simp
              refine hK _ _ (fun _ => ⟨⟨_, BW⟩, rfl⟩) ?_
              clear hK
              change stepL _ _ _ _ _ _ _ _ _
              refine stepL_at (by rfl) fun K Q' hK => ?_
              go_simp
              refine hK _ _ (fun _ => ⟨⟨_, BW⟩, rfl⟩) ?_
              clear hK
              refine treeL_nil ?_
              have HX8 := hid (HX2.out.grow BW)
              clear HX2 BW d8 HB1 CB hl1 hl2
            · have HD := hid (HX8.out.down sxn HA.out false HBT.out)
              go_wp2
              go_roundw
              case rel => exact ⟨_, _, rfl, HD.out⟩
              case measure =>
                rw [← HSA.out] at HM
                have q1 := HD.out.meas
                have q2 := HD.out.less hn
                simp only [slotA, Bool.false_eq_true, if_false] at q1
                rw [← HSA.out, HM.out, q1]
                exact q2
            · have HD := hid (HX8.out.down sxn HA.out true HBT.out)
              go_wp2
              go_roundw
              case rel => exact ⟨_, _, rfl, HD.out⟩
              case measure =>
                rw [← HSA.out] at HM
                have q1 := HD.out.meas
                have q2 := HD.out.less hn
                simp only [slotA, if_true] at q1
                rw [← HSA.out, HM.out, q1]
                exact q2
      · obtain rfl : s = m := by omega
        have HX := HL4
        go_upto_region 8 with fail
        clear HL4 HN4 z0' z1 z3
        -- HX: the trie; the node at b has the first s bits
        have xn := ((mem_plug _ _ _).1 HX.out.mem).2.1
        have HXN := hid xn
        have xl := xn.lt
        have x0 : w4.cell? ⟨b, 16, none⟩ = some (.int .i64 (s : Int)) := xn.cell (i := 16) rfl
        have KX := hid (HK.out.only HX.out.only hout)
        have x1 : w4.cell? ⟨w.heap.size, 16, none⟩ = some (.int .i64 (n : Int)) := KX.out.cell (i := 16) rfl
        clear xn
        by_cases ce : s = n
        · have ce' : ((s : Int) == (n : Int)) = true := by rw [ce]; simp
          go_upto_region 8 with fail
          go_quiet (fail)
          go_wp2
          go_ret
          refine ⟨c, b, a, v, g, l, r, rfl, ?_, by rw [← ce]; exact HA.out⟩
          have := (HX.out.grow (drewN_below w4 nq)).base HB0.out
          rw [ce] at this
          exact this
        · have ce' : ((s : Int) == (n : Int)) = false := by simpa using (fun q => ce (by omega))
          have sxn : s < n := by have := HSN.out; omega
          go_upto_region 8 with fail
          go_quiet (fail)
          go_upto_region 10 with fail
          have HX2 := hid (HX.out.grow (drewN_below w4 nq))
          have K2 := hid (KX.out.below (drewN_below w4 nq))
          have xn2 : Bl 56 (w4.drewN nq) b _ := HXN.out.below (drewN_below w4 nq)
          have hdw : (w4.drewN nq).heap.size = w4.heap.size := rfl
          rw [← hdw] at xl
          clear HX x0 x1 ce' hdw KX HXN
          generalize w4.drewN nq = w7 at *
          have hl1 : ∀ s' : Kept w7.heap.size w7, s'.val.cell? ⟨b, 16, none⟩ = some (.int .i64 (s : Int)) := fun s' => (xn2.kept xl s').cell (i := 16) rfl
          have hl2 : ∀ s' : Kept w7.heap.size w7, (Instr.loadAt 52 (.pointer (some ⟨w.heap.size, 0, none⟩))).run Try.prog s'.val = .ok (.agg #[.int .u8 (byt k 0), .int .u8 (byt k 1), .int .u8 (byt k 2), .int .u8 (byt k 3), .int .u8 (byt k 4), .int .u8 (byt k 5), .int .u8 (byt k 6), .int .u8 (byt k 7), .int .u8 (byt k 8), .int .u8 (byt k 9), .int .u8 (byt k 10), .int .u8 (byt k 11), .int .u8 (byt k 12), .int .u8 (byt k 13), .int .u8 (byt k 14), .int .u8 (byt k 15), .int .i64 (n : Int)]) s'.val := fun s' =>
            run_loadAt_mid s'.val w.heap.size 0 52 [.int .u8 (byt k 0), .int .u8 (byt k 1), .int .u8 (byt k 2), .int .u8 (byt k 3), .int .u8 (byt k 4), .int .u8 (byt k 5), .int .u8 (byt k 6), .int .u8 (byt k 7), .int .u8 (byt k 8), .int .u8 (byt k 9), .int .u8 (byt k 10), .int .u8 (byt k 11), .int .u8 (byt k 12), .int .u8 (byt k 13), .int .u8 (byt k 14), .int .u8 (byt k 15), .int .i64 (n : Int)] _ (beg_range (K2.out.kept K2.out.lt s')) Try.underlying52 rfl hinf.out
          have hNe : Nonempty (Kept w7.heap.size w7) := ⟨⟨w7, Below.refl _ _⟩⟩
          clear xn2 K2
          have hbit : bitN k s = 0 ∨ bitN k s = 1 := bitN_two k s
          rcases hbit with hbit | hbit
          all_goals
            have HBT := hid hbit
            have CB := hid (fun u : World => bit_at k (n : Int) s u bk (by omega))
            rw [hbit] at CB
            clear hbit
            refine wp_region_forkA [0, 1, 2, 3, 4, 5, 6, 8, 9] (.one 7 (.one 10 (.one 11 .nil))) (fun u => ∃ s' : Kept w7.heap.size w7, u = s'.val) (by kernel_rfl) (by kernel_rfl) (by kernel_rfl) ⟨⟨_, (Below.refl w7.heap.size w7).drew⟩, rfl⟩ ?_
            change wpQuiet _ _ _ _ [_, _, _, _, _, _, _, _, _] _
            go_big_quiet_step (fail)
            refine wpQuiet_load 52 (.tmp 3) rfl _ _ rfl (fun u hu => by obtain ⟨s', rfl⟩ := hu; exact hl2 s') ?_
            simp only [Act.put, List.setIfInBounds_toArray, List.set_cons_succ, List.set_cons_zero]
            repeat (go_big_quiet_step (fail))
            refine wpQuiet_nil ?_
            have HB1 := Below.drew (Below.refl w7.heap.size w7)
            change stepL _ _ _ _ _ _ _ _ _
            refine stepL_at (by rfl) fun K Q' hK => ?_
            go_simp
            refine (CB.out _).mono ?_
            rintro e w8 ⟨rfl, d8⟩
            have BW : Below w7.heap.size w7 w8 := HB1.trans d8
            refine hK _ _ (fun _ => ⟨⟨_, BW⟩, rfl⟩) ?_
            clear hK
            change stepL _ _ _ _ _ _ _ _ _
            refine stepL_at (by rfl) fun K Q' hK => ?_
            go_simp
            refine hK _ _ (fun _ => ⟨⟨_, BW⟩, rfl⟩) ?_
            clear hK
            change stepL _ _ _ _ _ _ _ _ _
            refine stepL_at (by rfl) fun K Q' hK => ?_
            go_simp
            refine hK _ _ (fun _ => ⟨⟨_, BW⟩, rfl⟩) ?_
            clear hK
            refine treeL_nil ?_
            have HX8 := hid (HX2.out.grow BW)
            clear HX2 BW d8 HB1 CB hl1 hl2
          · have HD := hid (HX8.out.down sxn HA.out false HBT.out)
            go_wp2
            go_roundw
            case rel => exact ⟨_, _, rfl, HD.out⟩
            case measure =>
              rw [← HSA.out] at HM
              have q1 := HD.out.meas
              have q2 := HD.out.less hn
              simp only [slotA, Bool.false_eq_true, if_false] at q1
              rw [← HSA.out, HM.out, q1]
              exact q2
          · have HD := hid (HX8.out.down sxn HA.out true HBT.out)
            go_wp2
            go_roundw
            case rel => exact ⟨_, _, rfl, HD.out⟩
            case measure =>
              rw [← HSA.out] at HM
              have q1 := HD.out.meas
              have q2 := HD.out.less hn
              simp only [slotA, if_true] at q1
              rw [← HSA.out, HM.out, q1]
              exact q2

end Go.Proofs.Ytoakpkpdipgfoaa
