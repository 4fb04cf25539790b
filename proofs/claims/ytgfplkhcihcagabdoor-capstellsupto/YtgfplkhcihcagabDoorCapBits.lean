/-
  The walk of Bits: which letters of a name are great.
-/
import Derived.Test.YtgfplkhcihcagabDoorCapIt
import Derived.Test.YtgfplkhcihcagabDoorTails
import Derived.Deep.RegionHeld
import Derived.Maps.AppendAt
import Derived.Deep.QuietTactic
import Derived.BigQuiet
namespace Go.Proofs.YtgfplkhcihcagabDoor
open Go.RowKit Go.Deep Go.Shelf

attribute [local go_sem] Oper.semAt_some

theorem info_bool : (Tryd.prog.info? 4).map (fun i => (i.zero, i.size, i.bytes)) = some (some (.bool false), 1, 1) := by kernel_rfl

/-- A row of bools of the call's own. -/
def Rowo (w : World) (B : Nat) (v : Value) (xs : List Bool) : Prop := w.ownsRow B 4 1 v xs.length (xs.map Value.bool)

theorem grown_drew {w w' : World} {r : Option Nat} (h : w.drew.grownBy w' r) : w.grownBy w' r := ⟨h.os, h.tape, h.output, h.size, h.block⟩

set_option maxRecDepth 100000 in
set_option maxHeartbeats 4000000 in
theorem Bits_any (x : Option Addr) (c : Nat) (ns : List ByteArray) (w : World) (hS : Strs w x c ns) (hN : (Cp.posN (labs ns)).length ≤ 100000000000) :
    Calls Tryd.prog 5 #[.slice x ns.length c] w fun e w' => ∃ v, e = .returned v ∧ Rowo w' w.heap.size v (Cp.greatsN (labs ns)) ∧ Below w.heap.size w w' := by
  have hl : ns.length ≤ 8796093022208 := hS.2.1
  obtain ⟨i0, hi, hz0, hz1, hz2⟩ := info_parts info_bool
  refine (callsIn_wide (n := 4)).1 ?_
  refine callsIn_of_wp_marks Tryd.func5 rfl trivial ?_ rfl
  simp only [Tryd.ntmps5, List.size_toArray, List.length_cons, List.length_nil, Nat.reduceAdd, Nat.reduceSub, Array.replicate_succ, Array.replicate_zero, List.push_toArray, List.append_toArray, List.nil_append, List.cons_append]
  gi_wp2_with (refine ⟨trivial, ?_⟩; gi_at_call 12; refine (callsIn_wide.2 (letters_any _ _ _ _)).mono ?_; rintro e w' ⟨rfl, rfl⟩)
  have bS := Boxed.new w 22 (.slice x ns.length c)
  have bO := Boxed.new (w.alloc (.cells #[.slice x ns.length c] 22)) 23 (.slice none 0 0)
  have bN := Boxed.new ((w.alloc (.cells #[.slice x ns.length c] 22)).alloc (.cells #[.slice none 0 0] 23)) 22 (.slice x ns.length c)
  rw [World.size_alloc] at bO
  rw [World.size_alloc, World.size_alloc] at bN
  have hB0 : Below w.heap.size w (((w.alloc (.cells #[.slice x ns.length c] 22)).alloc (.cells #[.slice none 0 0] 23)).alloc (.cells #[.slice x ns.length c] 22)) := (((Below.refl _ w).alloc (Nat.le_refl _) _).alloc (by simp) _).alloc (by simp; omega) _
  refine wpIn_rangeFunc_ownG rfl (by decide) (gf := 19) (lb := #[.pointer (some ⟨w.heap.size + 2, 0, none⟩)]) rfl trivial (enters_of Tryd.func19 (by kernel_rfl) rfl)
    (letters_stops 3 (by decide) (w.heap.size + 2) w.heap.size x c ns _ (by simp) (by simp; omega) bN.cell (hS.at.below hB0)) belowK_t (belowK_b (by simp; omega)) (Below.refl _ _) (fun _ => rfl)
    (fun pre W => ((∃ v, Boxed W (w.heap.size + 1) 23 v ∧ W.ownsRow w.heap.size 4 1 v pre.length (pre.map fun p => Value.bool (Cp.isG (Cp.here p))) ∧ True) ∧ Boxed W w.heap.size 22 (.slice x ns.length c)) ∧ Below w.heap.size w W)
    (fun _ _ _ => False)
    (OwnFrom.and (OwnFrom.and (Own.from (holdsRow_own w.heap.size (w.heap.size + 1) 23 4 1 (fun (pre : List (Cp.Pos (labs ns))) => pre.length) (fun (pre : List (Cp.Pos (labs ns))) => pre.map fun p => Value.bool (Cp.isG (Cp.here p))) (fun _ _ => True)) _) (Own.from (boxed_own _ _ _) _)) (ownFrom_below (Nat.le_refl _) (by simp; omega)))
    (fun _ _ _ _ _ hs _ _ => hs)
    ⟨⟨⟨_, bO.alloc _, World.ownsRow_nil _ _ _ _, trivial⟩, (bS.alloc _).alloc _⟩, hB0⟩
    (fun p => { tmps := #[.slice x ns.length c, .pointer (some ⟨w.heap.size, 0, none⟩), .slice none 0 0, .pointer (some ⟨w.heap.size + 1, 0, none⟩), .int .i64 (p.1.1 : Int), .int .i64 (p.1.2 : Int), .slice x ns.length c, .func (.func 19) #[] #[.pointer (some ⟨w.heap.size + 2, 0, none⟩)], .int .i64 (p.1.1 : Int), .int .i64 (p.1.2 : Int), undef, undef, undef, undef, undef, undef, undef, undef, undef, undef, undef], defers := [] }) ?assign ?body ?done ?stop
  case assign =>
    intro l x W K hK
    gi_wp2
    simpa using hK
  case body =>
    rintro l pre p W ⟨⟨⟨v, hv, hrow, -⟩, hn⟩, hB⟩ hlt
    obtain ⟨⟨i, j⟩, hok⟩ := p
    obtain ⟨_, _, sa, da⟩ := hS.at.below hB
    have h1 : i < ns.length := by simpa using hok.1
    have h2 : j < (ns.getD i ByteArray.empty).size := by have := hok.2.1; rwa [labs_lab_len] at this
    rcases da with da | ⟨ba, oa, rfl, hba, qa⟩
    · rw [da] at h1; simp at h1
    have fa := qa i h1
    have na := getD_mem_size sa i
    have EA : Cp.at2 (labs ns) i j = _ := labs_at ns i j h2
    clear qa sa
    have HE : Cp.here (⟨(i, j), hok⟩ : Cp.Pos (labs ns)) = _ := EA
    generalize ns.getD i ByteArray.empty = s at *
    have EB := u8_bound s[j]
    obtain ⟨g, hg⟩ : ∃ g, Cp.isG (s[j].toNat : Int) = g := ⟨_, rfl⟩
    have HG := hid hg
    have H2 : (j : Int) < (s.size : Int) := by omega
    gi_wp2
    obtain ⟨KL, hKL⟩ : ∃ KL : List (Addr × Value), KL = [(⟨w.heap.size + 1, 0, none⟩, v), (⟨w.heap.size, 0, none⟩, .slice (some ⟨ba, oa, none⟩) ns.length c), (⟨ba, oa + i, none⟩, .string s)] := ⟨_, rfl⟩
    have hW0 : ∀ e ∈ KL, W.cell? e.1 = some e.2 := by
      intro e he
      rw [hKL] at he
      simp only [List.mem_cons, List.not_mem_nil, or_false] at he
      rcases he with rfl | rfl | rfl
      · exact hv.cell
      · exact hn.cell
      · exact fa
    have hNe : Nonempty (Keep KL) := Keep.some W hW0
    have xc0 : ∀ s' : Keep KL, s'.val.cell? ⟨w.heap.size + 1, 0, none⟩ = some v := fun s' => s'.cells (⟨w.heap.size + 1, 0, none⟩, v) (by rw [hKL]; simp)
    have xc1 : ∀ s' : Keep KL, s'.val.cell? ⟨w.heap.size, 0, none⟩ = some (.slice (some ⟨ba, oa, none⟩) ns.length c) := fun s' => s'.cells (⟨w.heap.size, 0, none⟩, .slice (some ⟨ba, oa, none⟩) ns.length c) (by rw [hKL]; simp)
    have xc2 : ∀ s' : Keep KL, s'.val.cell? ⟨ba, oa + i, none⟩ = some (.string s) := fun s' => s'.cells (⟨ba, oa + i, none⟩, .string s) (by rw [hKL]; simp)
    have HKL := hid hKL
    clear hKL
    refine wpIn_region_tail 7 (fun u => ∃ s' : Keep KL, u = s'.val) (by kernel_rfl) (by kernel_rfl) (by kernel_rfl) (fun _ _ h => h) ⟨⟨W.drew, hW0⟩, rfl⟩ ?_
    simp only [List.take_succ_cons, List.take_zero]
    repeat (go_big_quiet_step (fail))
    refine wpQuiet_nil ?_
    simp only [List.length_cons, List.length_nil, Nat.reduceAdd, Nat.reduceSub, List.drop_succ_cons, List.drop_zero]
    clear xc0 xc1 xc2 hNe EA
    have hW1 : ∀ e ∈ KL, W.drew.cell? e.1 = some e.2 := hW0
    refine rowB_step fun K Q' hK => ?_
    go_simp
    refine (isGreat_at g _ _ EB.1 EB.2 HG.out).mono ?_
    rintro e w' ⟨rfl, rfl⟩
    refine hK _ _ (fun _ => ⟨⟨_, hW1⟩, rfl⟩) ?_
    clear hK
    refine rowB_step fun K Q' hK => ?_
    go_simp
    refine hK _ _ (fun _ => ⟨⟨_, fun e he => ?_⟩, rfl⟩) ?_
    · exact (World.cell?_alloc_some W e.1 _ (by rw [hW0 e he]; rfl)).trans (hW0 e he)
    clear hK
    refine rowB_step fun K Q' hK => ?_
    refine wp_append_own _ (.tmp 10) (.tmp 18) 23 rfl w.heap.size 4 i0 (.bool false) 1 1 Tryd.underlying23 hi hz0 hz1 hz2 rfl (by decide) v pre.length _ rfl (hrow.alloc _) ⟨W.heap.size, 0, none⟩ 1 1 [.bool g] rfl rfl (cell_one_new _ _ _) (by simp [Value.oneCell']) (by unfold maxLen; omega) (by omega) (by have := hB.size; show w.heap.size ≤ (W.alloc _).heap.size; simp; omega) ?_
    intro v' w1 hown' hgrow0 _
    have hgrow := grown_drew hgrow0
    clear hgrow0
    obtain ⟨g', cap', rfl⟩ := ownsRow_succ hown'
    obtain ⟨hv1, hv2, hr2, hk2, hb2⟩ := hv.appended (tmp := .cells #[.bool g] 4) (by decide) hrow hB.size (by omega) hown' hgrow
    have hc1 := hv1.cell
    have hf1 := hv1.frozen
    refine hK _ _ (fun _ => ⟨⟨_, fun e he => ?_⟩, rfl⟩) ?_
    · have he' := he
      rw [HKL.out] at he'
      simp only [List.mem_cons, List.not_mem_nil, or_false] at he'
      rcases he' with rfl | rfl | rfl
      · exact hv1.cell
      · exact ((hn.alloc _).kept hgrow (hn.not_row (by decide) hrow)).cell
      · exact (World.cell?_setCell_far w1 ⟨w.heap.size + 1, 0, none⟩ ⟨ba, oa + i, none⟩ _ (by simp; omega)).symm.trans ((hb2.cell (p := ⟨ba, oa + i, none⟩) hba).trans fa)
    clear hK
    refine rowB_step fun K Q' hK => ?_
    go_simp
    refine hK _ _ (fun h => by omega) ?_
    refine rowB_nil ?_
    refine ⟨hk2.from _, hb2, ⟨⟨_, hv2, ?_, trivial⟩, ((hn.alloc _).kept hgrow (hn.not_row (by decide) hrow)).other (by omega) _⟩, hB.trans hb2⟩
    rw [List.map_append, List.map_singleton, HE, HG.out, List.length_append, List.length_singleton]
    exact hr2
  case done =>
    rintro D ys W hD rfl ⟨⟨⟨v, hv, hrow, -⟩, hn⟩, hB⟩ hK
    have hc := hv.cell
    gi_wp2
    refine ⟨by simp, .inl ⟨_, _, rfl, run_takeDeferred hK, ?_⟩⟩
    exact ⟨_, results_tmp rfl _ _ _, v, rfl, by
      have := ownsRow_putObj hrow (.deferred none) hK rfl
      unfold Rowo; rw [Cp.greats_len, ← Cp.posN_great, List.map_map]; exact this, hB.trans (belowK_b (w := w) (Nat.le_refl _) W D _ _ (by simp at hD; omega) hK rfl rfl)⟩
  case stop =>
    rintro D c pre W _ _ h _
    exact h.elim

end Go.Proofs.YtgfplkhcihcagabDoor
