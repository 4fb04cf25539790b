/-
  The walk of package trie's Get.
-/
import Derived.Test.YtoakpkpdipgfoaaTrieF
namespace Go.Proofs.Ytoakpkpdipgfoaa
open Go.RowKit Go.Deep

/-- What Get tells. -/
def getV : Option (Nat × Int) → Value
  | none => .tuple #[.int .i64 0, .int .i64 0, .bool false]
  | some (n, v) => .tuple #[.int .i64 v, .int .i64 (n : Int), .bool true]

def gV : Option (Nat × Int) → Int
  | none => 0
  | some (_, v) => v

def gN : Option (Nat × Int) → Int
  | none => 0
  | some (n, _) => n

def gH : Option (Nat × Int) → Bool
  | none => false
  | some _ => true

theorem getV_eq (x : Option (Nat × Int)) : getV x = .tuple #[.int .i64 (gV x), .int .i64 (gN x), .bool (gH x)] := by
  cases x with
  | none => rfl
  | some p => obtain ⟨n, v⟩ := p; rfl

/-- How far it still is. -/
def getM (v : Value) (w : World) : Nat :=
  match v with
  | .pointer (some p) => (match w.cell? ⟨p.block, 16, none⟩ with | some (.int _ m) => 200 - m.toNat | _ => 0)
  | _ => 0

theorem getM_node {w : World} {b : Nat} {a : List Int} {n : Nat} {v : Int} {h : Bool} {l r : Tn} (k : Mem w (.node b a n v h l r)) : getM (ptrV (some b)) w = 200 - n := by
  have h3 : w.cell? ⟨b, 16, none⟩ = some (.int .i64 (n : Int)) := k.1.cell (i := 16) rfl
  simp only [getM, ptrV, h3, Int.toNat_natCast]

theorem getM_less {w : World} {t : Tn} {n : Nat} (k : Mem w t) (hn : n ≤ 128) (hk : ∀ x ∈ t.keys, n < x.2) : getM (ptrV t.ptr) w < 200 - n := by
  cases t with
  | nil => simp only [Tn.ptr, ptrV, getM]; omega
  | node b a m v h l r =>
    have h1 := getM_node k
    have h2 := hk (a, m) (by simp [Tn.keys])
    simp only at h2
    rw [show (Tn.node b a m v h l r).ptr = some b from rfl, h1]
    omega

theorem getM_same {v : Value} {w w' : World} (h : ∀ p, v = .pointer (some p) → w'.cell? ⟨p.block, 16, none⟩ = w.cell? ⟨p.block, 16, none⟩) : getM v w' = getM v w := by
  unfold getM
  split
  · rw [h _ rfl]
  · rfl

theorem getM_on {W wr w8 : World} {b : Nat} {a : List Int} {n : Nat} {v : Int} {h : Bool} {l r t : Tn} (k : Mem W (.node b a n v h l r)) (hw : (Tn.node b a n v h l r).wf) (h1 : Below W.heap.size W wr) (h2 : Below W.heap.size W w8) (ht : t = l ∨ t = r) :
    getM (ptrV t.ptr) w8 < getM (.pointer (some ⟨b, 0, none⟩)) wr := by
  have kr : Mem wr (.node b a n v h l r) := k.same (fun x hx => h1.block x (k.lt x hx))
  have k8 : Mem w8 (.node b a n v h l r) := k.same (fun x hx => h2.block x (k.lt x hx))
  rw [show Value.pointer (some ⟨b, 0, none⟩) = ptrV (some b) from rfl, getM_node kr]
  rcases ht with rfl | rfl
  · exact getM_less k8.2.1 hw.1.1 (fun x hx => (hw.2.1 x hx).1)
  · exact getM_less k8.2.2 hw.1.1 (fun x hx => (hw.2.2.1 x hx).1)

/-- Where the walk stands: below t, with what was found. -/
def GetRel (W : World) (q : List Int) (m : Nat) (res : Option (Nat × Int)) (p : Value) (v n h : Value) (wr : World) : Prop :=
  ∃ t x, p = ptrV t.ptr ∧ v = .int .i64 (gV x) ∧ n = .int .i64 (gN x) ∧ h = .bool (gH x) ∧ Mem W t ∧ t.wf ∧ t.get q m x = res ∧ Below W.heap.size W wr

set_option maxHeartbeats 4000000 in
set_option maxRecDepth 100000 in
theorem tget_q (tb : Nat) (T : Tn) (q : List Int) (m : Nat) {x : Option Addr} {c l z : Nat} (A : List Int) (w : World) (h : TrieS w tb T) (ha : Bys w x c (A.take 16)) (hl : A.length = l) (hl2 : A.length ≤ 200000000000000) (hlc : A.length ≤ c) (hx : x = none → c = 0) (hz : min l 16 = z) (hq : padN (A.take 16) = q) (hm : 8 * z = m) (res : Option (Nat × Int)) (hres : T.get q m none = res) :
    Calls Try.prog 10 #[.pointer (some ⟨tb, 0, none⟩), .slice x l c] w fun e w' => e = .returned (getV res) ∧ Below w.heap.size w w' := by
  subst hl
  have hzl : z ≤ A.length := by omega
  have hz16 : z ≤ 16 := by omega
  have hm128 : m ≤ 128 := by omega
  have htl : (A.take 16).length = z := by rw [List.length_take]; omega
  have bq : Hid (∀ y ∈ q, 0 ≤ y ∧ y ≤ 255) := hid (by rw [← hq]; exact padN_bytes ha.2.2.1)
  have HBG := hid (begin_at (A.take 16) (m : Int) w ha htl (by omega))
  rw [hq] at HBG
  have HT := hid h
  have hroot := h.root.cell (i := 0) rfl
  have hinf : (Try.prog.info? 52).map (·.size) = some 17 := by kernel_rfl
  have hmz : (z : Int) * 8 = (m : Int) := by omega
  have hzc : z ≤ c := by omega
  have hzli : (z : Int) ≤ (A.length : Int) := by omega
  have HX := hid hx
  have HZ := hid hz
  obtain ⟨L, hL⟩ : ∃ L, A.length = L := ⟨_, rfl⟩
  rw [hL] at hzli hzl hlc hl2 HZ ⊢
  have HRES := hid hres
  clear h ha hq hm htl hx hz hres
  have hcase : L ≤ 16 ∧ L = z ∨ 16 < L ∧ 16 = z := by have := HZ.out; omega
  go_enter Try.func10, Try.ntmps10
  go_upto_region 1 with fail
  go_cut [7] from 13 to 15 (fun v wx => v = .int .i64 (z : Int) ∧ wx = w)
  case first =>
    rcases hcase with ⟨hc1, hc2⟩ | ⟨hc1, hc2⟩
    · have hc1' : (L : Int) ≤ 16 := by omega
      go_wp2
      go_meet
      exact ⟨congrArg (Value.int .i64) (by omega), rfl⟩
    · have hc1' : (16 : Int) < (L : Int) := by omega
      go_wp2
      go_meet
      exact ⟨congrArg (Value.int .i64) (by omega), rfl⟩
  case rest =>
    clear hcase
    obtain ⟨rfl, rfl⟩ := hcut
    have hcc : (z : Int) ≤ (c : Int) := by omega
    go_upto_region 3 with (first
      | (go_at_call 16; refine HBG.out.mono ?_; rintro e w1 ⟨rfl, d1⟩)
      | (refine wpList_store_row rfl 52 (.tmp 8) (.tmp 21) rfl w1.heap.size #[.int .u8 (byt q 0), .int .u8 (byt q 1), .int .u8 (byt q 2), .int .u8 (byt q 3), .int .u8 (byt q 4), .int .u8 (byt q 5), .int .u8 (byt q 6), .int .u8 (byt q 7), .int .u8 (byt q 8), .int .u8 (byt q 9), .int .u8 (byt q 10), .int .u8 (byt q 11), .int .u8 (byt q 12), .int .u8 (byt q 13), .int .u8 (byt q 14), .int .u8 (byt q 15), .int .i64 (m : Int)] rfl rfl 52 #[.int .u8 0, .int .u8 0, .int .u8 0, .int .u8 0, .int .u8 0, .int .u8 0, .int .u8 0, .int .u8 0, .int .u8 0, .int .u8 0, .int .u8 0, .int .u8 0, .int .u8 0, .int .u8 0, .int .u8 0, .int .u8 0, .int .i64 0] (Bl.new _ _ _) hinf rfl (by simp [Value.oneCell']) ?_))
    have K2 : Bl 52 ((w1.alloc (.cells #[.int .u8 0, .int .u8 0, .int .u8 0, .int .u8 0, .int .u8 0, .int .u8 0, .int .u8 0, .int .u8 0, .int .u8 0, .int .u8 0, .int .u8 0, .int .u8 0, .int .u8 0, .int .u8 0, .int .u8 0, .int .u8 0, .int .i64 0] 52)).setRow w1.heap.size #[.int .u8 (byt q 0), .int .u8 (byt q 1), .int .u8 (byt q 2), .int .u8 (byt q 3), .int .u8 (byt q 4), .int .u8 (byt q 5), .int .u8 (byt q 6), .int .u8 (byt q 7), .int .u8 (byt q 8), .int .u8 (byt q 9), .int .u8 (byt q 10), .int .u8 (byt q 11), .int .u8 (byt q 12), .int .u8 (byt q 13), .int .u8 (byt q 14), .int .u8 (byt q 15), .int .i64 (m : Int)]) w1.heap.size #[.int .u8 (byt q 0), .int .u8 (byt q 1), .int .u8 (byt q 2), .int .u8 (byt q 3), .int .u8 (byt q 4), .int .u8 (byt q 5), .int .u8 (byt q 6), .int .u8 (byt q 7), .int .u8 (byt q 8), .int .u8 (byt q 9), .int .u8 (byt q 10), .int .u8 (byt q 11), .int .u8 (byt q 12), .int .u8 (byt q 13), .int .u8 (byt q 14), .int .u8 (byt q 15), .int .i64 (m : Int)] := (Bl.new _ _ _).row _
    have B2 : Below wc.heap.size wc ((w1.alloc (.cells #[.int .u8 0, .int .u8 0, .int .u8 0, .int .u8 0, .int .u8 0, .int .u8 0, .int .u8 0, .int .u8 0, .int .u8 0, .int .u8 0, .int .u8 0, .int .u8 0, .int .u8 0, .int .u8 0, .int .u8 0, .int .u8 0, .int .i64 0] 52)).setRow w1.heap.size #[.int .u8 (byt q 0), .int .u8 (byt q 1), .int .u8 (byt q 2), .int .u8 (byt q 3), .int .u8 (byt q 4), .int .u8 (byt q 5), .int .u8 (byt q 6), .int .u8 (byt q 7), .int .u8 (byt q 8), .int .u8 (byt q 9), .int .u8 (byt q 10), .int .u8 (byt q 11), .int .u8 (byt q 12), .int .u8 (byt q 13), .int .u8 (byt q 14), .int .u8 (byt q 15), .int .i64 (m : Int)]) := below_setRow (d1.trans (((Below.refl _ w1).alloc (Nat.le_refl _) _).mono d1.size)) d1.size _
    generalize (w1.alloc (.cells #[.int .u8 0, .int .u8 0, .int .u8 0, .int .u8 0, .int .u8 0, .int .u8 0, .int .u8 0, .int .u8 0, .int .u8 0, .int .u8 0, .int .u8 0, .int .u8 0, .int .u8 0, .int .u8 0, .int .u8 0, .int .u8 0, .int .i64 0] 52)).setRow w1.heap.size #[.int .u8 (byt q 0), .int .u8 (byt q 1), .int .u8 (byt q 2), .int .u8 (byt q 3), .int .u8 (byt q 4), .int .u8 (byt q 5), .int .u8 (byt q 6), .int .u8 (byt q 7), .int .u8 (byt q 8), .int .u8 (byt q 9), .int .u8 (byt q 10), .int .u8 (byt q 11), .int .u8 (byt q 12), .int .u8 (byt q 13), .int .u8 (byt q 14), .int .u8 (byt q 15), .int .i64 (m : Int)] = w2 at *
    generalize w1.heap.size = bw at *
    have hT2 := HT.out.below B2
    have hwle : wc.heap.size ≤ w2.heap.size := B2.size
    have y0 : w2.cell? ⟨tb, 0, none⟩ = some (ptrV T.ptr) := hT2.root.cell (i := 0) rfl
    have HM2 := hid hT2.mem
    have HW2 := hid hT2.wf
    have Q2 := hid K2
    have HB2 := hid B2
    clear hT2 K2 B2 d1 hroot HBG HX
    go_wp2
    go_loopw [9, 10, 11, 12] (fun v n h p wr => GetRel w2 q m res p v n h wr) (fun _ _ _ p wr => getM p wr)
    case atStart => exact ⟨T, none, rfl, rfl, rfl, rfl, HM2.out, HW2.out, HRES.out, Below.refl _ _⟩
    case round =>
      obtain ⟨t, x0, rfl, rfl, rfl, rfl, hmem, hwf, hget, hB0⟩ := hrel
      have hB := hid hB0
      have HBW := hid (HB2.out.trans (hB0.mono hwle))
      cases t with
      | nil =>
        rw [show ptrV Tn.nil.ptr = .pointer none from rfl]
        go_upto_region 5 with fail
        go_quiet (fail)
        go_wp2
        go_ret3
        refine ⟨?_, HBW.out.trans ((drewN_below wr nq).mono HBW.out.size)⟩
        rw [← hget]
        exact (congrArg Ending.returned (getV_eq x0)).symm
      | node b a n v g l r =>
        have HMM := hid hmem
        have HWF := hid hwf
        have hn128 := hwf.1.1
        have nb : Bl 56 wr b _ := hmem.1.below hB0
        have nq := Q2.out.below hB0
        have N2 := hid nb
        have Q3 := hid nq
        rw [show ptrV (Tn.node b a n v g l r).ptr = .pointer (some ⟨b, 0, none⟩) from rfl]
        obtain ⟨s, hs⟩ : ∃ s, comU a q (min n m) = s := ⟨_, rfl⟩
        have CC := hid (fun u : World => common_at a q n m s u hwf.1.2.2 bq.out hn128 hm128 hs)
        have hl0 : ∀ s' : Kept wr.heap.size wr, s'.val.cell? ⟨b, 16, none⟩ = some (.int .i64 (n : Int)) := fun s' => (N2.out.kept N2.out.lt s').cell (i := 16) rfl
        have hl1 : ∀ s' : Kept wr.heap.size wr, (Instr.loadAt 52 (.pointer (some ⟨b, 0, none⟩))).run Try.prog s'.val = .ok (.agg #[.int .u8 (byt a 0), .int .u8 (byt a 1), .int .u8 (byt a 2), .int .u8 (byt a 3), .int .u8 (byt a 4), .int .u8 (byt a 5), .int .u8 (byt a 6), .int .u8 (byt a 7), .int .u8 (byt a 8), .int .u8 (byt a 9), .int .u8 (byt a 10), .int .u8 (byt a 11), .int .u8 (byt a 12), .int .u8 (byt a 13), .int .u8 (byt a 14), .int .u8 (byt a 15), .int .i64 (n : Int)]) s'.val := fun s' =>
          run_loadAt_mid s'.val b 0 52 [.int .u8 (byt a 0), .int .u8 (byt a 1), .int .u8 (byt a 2), .int .u8 (byt a 3), .int .u8 (byt a 4), .int .u8 (byt a 5), .int .u8 (byt a 6), .int .u8 (byt a 7), .int .u8 (byt a 8), .int .u8 (byt a 9), .int .u8 (byt a 10), .int .u8 (byt a 11), .int .u8 (byt a 12), .int .u8 (byt a 13), .int .u8 (byt a 14), .int .u8 (byt a 15), .int .i64 (n : Int)] _ (node_range (N2.out.kept N2.out.lt s')) Try.underlying52 rfl hinf
        have hl2 : ∀ s' : Kept wr.heap.size wr, (Instr.loadAt 52 (.pointer (some ⟨bw, 0, none⟩))).run Try.prog s'.val = .ok (.agg #[.int .u8 (byt q 0), .int .u8 (byt q 1), .int .u8 (byt q 2), .int .u8 (byt q 3), .int .u8 (byt q 4), .int .u8 (byt q 5), .int .u8 (byt q 6), .int .u8 (byt q 7), .int .u8 (byt q 8), .int .u8 (byt q 9), .int .u8 (byt q 10), .int .u8 (byt q 11), .int .u8 (byt q 12), .int .u8 (byt q 13), .int .u8 (byt q 14), .int .u8 (byt q 15), .int .i64 (m : Int)]) s'.val := fun s' =>
          run_loadAt_mid s'.val bw 0 52 [.int .u8 (byt q 0), .int .u8 (byt q 1), .int .u8 (byt q 2), .int .u8 (byt q 3), .int .u8 (byt q 4), .int .u8 (byt q 5), .int .u8 (byt q 6), .int .u8 (byt q 7), .int .u8 (byt q 8), .int .u8 (byt q 9), .int .u8 (byt q 10), .int .u8 (byt q 11), .int .u8 (byt q 12), .int .u8 (byt q 13), .int .u8 (byt q 14), .int .u8 (byt q 15), .int .i64 (m : Int)] _ (beg_range (Q3.out.kept Q3.out.lt s')) Try.underlying52 rfl hinf
        have hNe : Nonempty (Kept wr.heap.size wr) := ⟨⟨wr, Below.refl _ _⟩⟩
        have hsn : s = n ↔ n ≤ m ∧ Al a q n := by
          have h1 := comU_le a q (min n m)
          have h2 := comU_al a q (min n m)
          rw [hs] at h1 h2
          constructor
          · intro z; subst z; exact ⟨by omega, h2⟩
          · rintro ⟨z1, z2⟩
            have := comU_most a q (min n m) n (by omega) z2
            rw [hs] at this
            omega
        clear nb nq hs hmem hwf hB0
        unfold Tn.get at hget
        by_cases ct : s = n
        all_goals
          first
            | (have ct' : ((s : Int) == (n : Int)) = true := (by rw [ct]; simp))
            | (have ct' : ((s : Int) == (n : Int)) = false := (by simpa using (fun z => ct (by omega))))
          go_upto_region 5 with fail
          refine wp_region_forkA [0, 1, 2, 3, 4, 5, 6, 7, 9, 10, 11, 12, 13] (.one 8 (.one 14 (.one 15 .nil))) (fun u => ∃ s' : Kept wr.heap.size wr, u = s'.val) (by kernel_rfl) (by kernel_rfl) (by kernel_rfl) ⟨⟨_, (Below.refl wr.heap.size wr).drew⟩, rfl⟩ ?_
          change wpQuiet _ _ _ _ [_, _, _, _, _, _, _, _, _, _, _, _, _] _
          repeat (go_big_quiet_step (fail))
          refine wpQuiet_load 52 (.tmp 31) rfl _ _ rfl (fun u hu => by obtain ⟨s', rfl⟩ := hu; exact hl1 s') ?_
          simp only [Act.put, List.setIfInBounds_toArray, List.set_cons_succ, List.set_cons_zero]
          refine wpQuiet_load 52 (.tmp 8) rfl _ _ rfl (fun u hu => by obtain ⟨s', rfl⟩ := hu; exact hl2 s') ?_
          simp only [Act.put, List.setIfInBounds_toArray, List.set_cons_succ, List.set_cons_zero]
          repeat (go_big_quiet_step (fail))
          refine wpQuiet_nil ?_
          have HB1 := Below.drew (Below.refl wr.heap.size wr)
          change stepL _ _ _ _ _ _ _ _ _
          refine stepL_at (by rfl) fun K Q' hK => ?_
          go_simp
          refine (CC.out _).mono ?_
          rintro e w4 ⟨rfl, d4⟩
          have BW : Below wr.heap.size wr w4 := HB1.trans d4
          refine hK _ _ (fun _ => ⟨⟨_, BW⟩, rfl⟩) ?_
          clear hK
          change stepL _ _ _ _ _ _ _ _ _
          refine stepL_at (by rfl) fun K Q' hK => ?_
          go_simp
          refine hK _ _ (fun _ => ⟨⟨_, BW⟩, rfl⟩) ?_
          clear hK
          change stepL _ _ _ _ _ _ _ _ _
          refine stepL_at (by rfl) fun K Q' hK => ?_
          go_simp
          refine hK _ _ (fun _ => ⟨⟨_, BW⟩, rfl⟩) ?_
          clear hK
          refine treeL_nil ?_
          have NX := hid (N2.out.below BW)
          have QX := hid (Q3.out.below BW)
          have BX := hid (HBW.out.trans (BW.mono HBW.out.size))
          have B4 := hid (hB.out.trans (BW.mono hB.out.size))
          clear N2 Q3 BW d4 HB1 CC hl0 hl1 hl2 hNe HBW
        · rw [if_pos (hsn.1 ct)] at hget
          go_upto_region 6 with fail
          have z0 : w4.cell? ⟨b, 18, none⟩ = some (.bool g) := NX.out.cell (i := 18) rfl
          cases g with
          | false =>
            simp only [Bool.false_eq_true, if_false] at hget
            go_upto_region 8 with fail
            have c0 : w4.cell? ⟨b, 16, none⟩ = some (.int .i64 (n : Int)) := NX.out.cell (i := 16) rfl
            have c1 : w4.cell? ⟨bw, 16, none⟩ = some (.int .i64 (m : Int)) := QX.out.cell (i := 16) rfl
            by_cases cm : n = m
            · have cm' : ((n : Int) == (m : Int)) = true := by rw [cm]; simp
              go_quiet (fail)
              go_wp2
              go_ret3
              refine ⟨?_, BX.out.trans ((drewN_below w4 nq).mono BX.out.size)⟩
              rw [← hget, if_pos cm]
              exact (congrArg Ending.returned (getV_eq x0)).symm
            · have cm' : ((n : Int) == (m : Int)) = false := by simpa using (fun z => cm (by omega))
              have hnm : n < m := by omega
              go_quiet (fail)
              go_upto_region 9 with fail
              have B7 := hid (B4.out.trans ((drewN_below w4 nq).mono B4.out.size))
              have N7 := hid (NX.out.below (drewN_below w4 nq))
              have Q7 := hid (QX.out.below (drewN_below w4 nq))
              clear c0 c1 cm' NX QX BX B4
              generalize w4.drewN nq = w7 at *
              have hl1 : ∀ s' : Kept w7.heap.size w7, s'.val.cell? ⟨b, 16, none⟩ = some (.int .i64 (n : Int)) := fun s' => (N7.out.kept N7.out.lt s').cell (i := 16) rfl
              have hl2 : ∀ s' : Kept w7.heap.size w7, (Instr.loadAt 52 (.pointer (some ⟨bw, 0, none⟩))).run Try.prog s'.val = .ok (.agg #[.int .u8 (byt q 0), .int .u8 (byt q 1), .int .u8 (byt q 2), .int .u8 (byt q 3), .int .u8 (byt q 4), .int .u8 (byt q 5), .int .u8 (byt q 6), .int .u8 (byt q 7), .int .u8 (byt q 8), .int .u8 (byt q 9), .int .u8 (byt q 10), .int .u8 (byt q 11), .int .u8 (byt q 12), .int .u8 (byt q 13), .int .u8 (byt q 14), .int .u8 (byt q 15), .int .i64 (m : Int)]) s'.val := fun s' =>
                run_loadAt_mid s'.val bw 0 52 [.int .u8 (byt q 0), .int .u8 (byt q 1), .int .u8 (byt q 2), .int .u8 (byt q 3), .int .u8 (byt q 4), .int .u8 (byt q 5), .int .u8 (byt q 6), .int .u8 (byt q 7), .int .u8 (byt q 8), .int .u8 (byt q 9), .int .u8 (byt q 10), .int .u8 (byt q 11), .int .u8 (byt q 12), .int .u8 (byt q 13), .int .u8 (byt q 14), .int .u8 (byt q 15), .int .i64 (m : Int)] _ (beg_range (Q7.out.kept Q7.out.lt s')) Try.underlying52 rfl hinf
              have hNe : Nonempty (Kept w7.heap.size w7) := ⟨⟨w7, Below.refl _ _⟩⟩
              have hbit : bitN q n = 0 ∨ bitN q n = 1 := bitN_two q n
              rw [if_neg cm] at hget
              rcases hbit with hbit | hbit
              all_goals
                have CB := hid (fun u : World => bit_at q (m : Int) n u bq.out (by omega))
                rw [hbit] at CB hget
                simp only [if_true, Int.reduceEq, if_false] at hget
                clear hbit
                refine wp_region_forkA [0, 1, 2, 3, 4, 5, 6, 8, 9] (.one 7 (.one 10 (.one 11 (.one 12 .nil)))) (fun u => ∃ s' : Kept w7.heap.size w7, u = s'.val) (by kernel_rfl) (by kernel_rfl) (by kernel_rfl) ⟨⟨_, (Below.refl w7.heap.size w7).drew⟩, rfl⟩ ?_
                change wpQuiet _ _ _ _ [_, _, _, _, _, _, _, _, _] _
                go_big_quiet_step (fail)
                refine wpQuiet_load 52 (.tmp 8) rfl _ _ rfl (fun u hu => by obtain ⟨s', rfl⟩ := hu; exact hl2 s') ?_
                simp only [Act.put, List.setIfInBounds_toArray, List.set_cons_succ, List.set_cons_zero]
                repeat (go_big_quiet_step (fail))
                refine wpQuiet_nil ?_
                have HB1 := Below.drew (Below.refl w7.heap.size w7)
                change stepL _ _ _ _ _ _ _ _ _
                refine stepL_at (by rfl) fun K Q' hK => ?_
                go_simp
                refine (CB.out _).mono ?_
                rintro e w8 ⟨rfl, d8⟩
                have BW : Below w7.heap.size w7 w8 := HB1.trans d8
                have z19 : w8.cell? ⟨b, 19, none⟩ = some (ptrV l.ptr) := (N7.out.below BW).cell (i := 19) rfl
                have z20 : w8.cell? ⟨b, 20, none⟩ = some (ptrV r.ptr) := (N7.out.below BW).cell (i := 20) rfl
                refine hK _ _ (fun _ => ⟨⟨_, BW⟩, rfl⟩) ?_
                clear hK
                change stepL _ _ _ _ _ _ _ _ _
                refine stepL_at (by rfl) fun K Q' hK => ?_
                go_simp
                refine hK _ _ (fun _ => ⟨⟨_, BW⟩, rfl⟩) ?_
                clear hK
                change stepL _ _ _ _ _ _ _ _ _
                refine stepL_at (by rfl) fun K Q' hK => ?_
                go_simp
                refine hK _ _ (fun _ => ⟨⟨_, BW⟩, rfl⟩) ?_
                clear hK
                change stepL _ _ _ _ _ _ _ _ _
                refine stepL_at (by rfl) fun K Q' hK => ?_
                go_simp
                refine hK _ _ (fun _ => ⟨⟨_, BW⟩, rfl⟩) ?_
                clear hK
                refine treeL_nil ?_
                have B8 := hid (B7.out.trans (BW.mono B7.out.size))
                clear BW d8 HB1 CB hl1 hl2 z19 z20
              · go_wp2
                go_roundw
                case rel => exact ⟨l, x0, rfl, rfl, rfl, rfl, HMM.out.2.1, HWF.out.2.2.2.1, hget, B8.out⟩
                case measure => exact getM_on HMM.out HWF.out hB.out B8.out (Or.inl rfl)
              · go_wp2
                go_roundw
                case rel => exact ⟨r, x0, rfl, rfl, rfl, rfl, HMM.out.2.2, HWF.out.2.2.2.2, hget, B8.out⟩
                case measure => exact getM_on HMM.out HWF.out hB.out B8.out (Or.inr rfl)
          | true =>
            simp only [if_true] at hget
            have z1 : w4.cell? ⟨b, 17, none⟩ = some (.int .i64 v) := NX.out.cell (i := 17) rfl
            have z2 : w4.cell? ⟨b, 16, none⟩ = some (.int .i64 (n : Int)) := NX.out.cell (i := 16) rfl
            go_upto_region 7 with fail
            go_quiet (fail)
            go_upto_region 8 with fail
            have NY := hid (NX.out.below (drewN_below w4 nq))
            have QY := hid (QX.out.below (drewN_below w4 nq))
            have BY := hid (BX.out.trans ((drewN_below w4 nq).mono BX.out.size))
            have B5 := hid (B4.out.trans ((drewN_below w4 nq).mono B4.out.size))
            clear NX QX BX B4 z0 z1 z2
            generalize w4.drewN nq = w5 at *
            go_upto_region 8 with fail
            have c0 : w5.cell? ⟨b, 16, none⟩ = some (.int .i64 (n : Int)) := NY.out.cell (i := 16) rfl
            have c1 : w5.cell? ⟨bw, 16, none⟩ = some (.int .i64 (m : Int)) := QY.out.cell (i := 16) rfl
            by_cases cm : n = m
            · have cm' : ((n : Int) == (m : Int)) = true := by rw [cm]; simp
              go_quiet (fail)
              go_wp2
              go_ret3
              refine ⟨?_, BY.out.trans ((drewN_below w5 nq).mono BY.out.size)⟩
              rw [← hget, if_pos cm]
              exact (congrArg Ending.returned (getV_eq (some (n, v)))).symm
            · have cm' : ((n : Int) == (m : Int)) = false := by simpa using (fun z => cm (by omega))
              have hnm : n < m := by omega
              go_quiet (fail)
              go_upto_region 9 with fail
              have B7 := hid (B5.out.trans ((drewN_below w5 nq).mono B5.out.size))
              have N7 := hid (NY.out.below (drewN_below w5 nq))
              have Q7 := hid (QY.out.below (drewN_below w5 nq))
              clear c0 c1 cm' NY QY BY B5
              generalize w5.drewN nq = w7 at *
              have hl1 : ∀ s' : Kept w7.heap.size w7, s'.val.cell? ⟨b, 16, none⟩ = some (.int .i64 (n : Int)) := fun s' => (N7.out.kept N7.out.lt s').cell (i := 16) rfl
              have hl2 : ∀ s' : Kept w7.heap.size w7, (Instr.loadAt 52 (.pointer (some ⟨bw, 0, none⟩))).run Try.prog s'.val = .ok (.agg #[.int .u8 (byt q 0), .int .u8 (byt q 1), .int .u8 (byt q 2), .int .u8 (byt q 3), .int .u8 (byt q 4), .int .u8 (byt q 5), .int .u8 (byt q 6), .int .u8 (byt q 7), .int .u8 (byt q 8), .int .u8 (byt q 9), .int .u8 (byt q 10), .int .u8 (byt q 11), .int .u8 (byt q 12), .int .u8 (byt q 13), .int .u8 (byt q 14), .int .u8 (byt q 15), .int .i64 (m : Int)]) s'.val := fun s' =>
                run_loadAt_mid s'.val bw 0 52 [.int .u8 (byt q 0), .int .u8 (byt q 1), .int .u8 (byt q 2), .int .u8 (byt q 3), .int .u8 (byt q 4), .int .u8 (byt q 5), .int .u8 (byt q 6), .int .u8 (byt q 7), .int .u8 (byt q 8), .int .u8 (byt q 9), .int .u8 (byt q 10), .int .u8 (byt q 11), .int .u8 (byt q 12), .int .u8 (byt q 13), .int .u8 (byt q 14), .int .u8 (byt q 15), .int .i64 (m : Int)] _ (beg_range (Q7.out.kept Q7.out.lt s')) Try.underlying52 rfl hinf
              have hNe : Nonempty (Kept w7.heap.size w7) := ⟨⟨w7, Below.refl _ _⟩⟩
              have hbit : bitN q n = 0 ∨ bitN q n = 1 := bitN_two q n
              rw [if_neg cm] at hget
              rcases hbit with hbit | hbit
              all_goals
                have CB := hid (fun u : World => bit_at q (m : Int) n u bq.out (by omega))
                rw [hbit] at CB hget
                simp only [if_true, Int.reduceEq, if_false] at hget
                clear hbit
                refine wp_region_forkA [0, 1, 2, 3, 4, 5, 6, 8, 9] (.one 7 (.one 10 (.one 11 (.one 12 .nil)))) (fun u => ∃ s' : Kept w7.heap.size w7, u = s'.val) (by kernel_rfl) (by kernel_rfl) (by kernel_rfl) ⟨⟨_, (Below.refl w7.heap.size w7).drew⟩, rfl⟩ ?_
                change wpQuiet _ _ _ _ [_, _, _, _, _, _, _, _, _] _
                go_big_quiet_step (fail)
                refine wpQuiet_load 52 (.tmp 8) rfl _ _ rfl (fun u hu => by obtain ⟨s', rfl⟩ := hu; exact hl2 s') ?_
                simp only [Act.put, List.setIfInBounds_toArray, List.set_cons_succ, List.set_cons_zero]
                repeat (go_big_quiet_step (fail))
                refine wpQuiet_nil ?_
                have HB1 := Below.drew (Below.refl w7.heap.size w7)
                change stepL _ _ _ _ _ _ _ _ _
                refine stepL_at (by rfl) fun K Q' hK => ?_
                go_simp
                refine (CB.out _).mono ?_
                rintro e w8 ⟨rfl, d8⟩
                have BW : Below w7.heap.size w7 w8 := HB1.trans d8
                have z19 : w8.cell? ⟨b, 19, none⟩ = some (ptrV l.ptr) := (N7.out.below BW).cell (i := 19) rfl
                have z20 : w8.cell? ⟨b, 20, none⟩ = some (ptrV r.ptr) := (N7.out.below BW).cell (i := 20) rfl
                refine hK _ _ (fun _ => ⟨⟨_, BW⟩, rfl⟩) ?_
                clear hK
                change stepL _ _ _ _ _ _ _ _ _
                refine stepL_at (by rfl) fun K Q' hK => ?_
                go_simp
                refine hK _ _ (fun _ => ⟨⟨_, BW⟩, rfl⟩) ?_
                clear hK
                change stepL _ _ _ _ _ _ _ _ _
                refine stepL_at (by rfl) fun K Q' hK => ?_
                go_simp
                refine hK _ _ (fun _ => ⟨⟨_, BW⟩, rfl⟩) ?_
                clear hK
                change stepL _ _ _ _ _ _ _ _ _
                refine stepL_at (by rfl) fun K Q' hK => ?_
                go_simp
                refine hK _ _ (fun _ => ⟨⟨_, BW⟩, rfl⟩) ?_
                clear hK
                refine treeL_nil ?_
                have B8 := hid (B7.out.trans (BW.mono B7.out.size))
                clear BW d8 HB1 CB hl1 hl2 z19 z20
              · go_wp2
                go_roundw
                case rel => exact ⟨l, (some (n, v)), rfl, rfl, rfl, rfl, HMM.out.2.1, HWF.out.2.2.2.1, hget, B8.out⟩
                case measure => exact getM_on HMM.out HWF.out hB.out B8.out (Or.inl rfl)
              · go_wp2
                go_roundw
                case rel => exact ⟨r, (some (n, v)), rfl, rfl, rfl, rfl, HMM.out.2.2, HWF.out.2.2.2.2, hget, B8.out⟩
                case measure => exact getM_on HMM.out HWF.out hB.out B8.out (Or.inr rfl)
        · rw [if_neg (fun z => ct (hsn.2 z))] at hget
          go_wp2
          go_ret3
          refine ⟨?_, BX.out⟩
          rw [← hget]
          exact (congrArg Ending.returned (getV_eq x0)).symm

end Go.Proofs.Ytoakpkpdipgfoaa
