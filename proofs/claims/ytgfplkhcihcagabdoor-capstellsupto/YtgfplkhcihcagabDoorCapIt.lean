/-
  The iterator over a name's letters: it gives the places of all letters, in order.
-/
import Derived.Test.YtgfplkhcihcagabDoorCapA
import Derived.RangeFuncNested
import Derived.RangeFuncBound
import Derived.RangeFuncCalls
import Derived.RangeFuncLeaves
import Derived.Shelf.Abstract
import Derived.Shelf.RegionOpen
import Derived.OwnWalkIn
import Derived.TacticsInMore
import Derived.LoopNIn
import Derived.LoopIn
namespace Go.Proofs.YtgfplkhcihcagabDoor
open Go.RowKit Go.Deep Go.Shelf

attribute [local go_sem] Oper.semAt_some

/-- A slice leads to these labels, in memory that is older than a bound. -/
def StrsAt (n₀ : Nat) (w : World) (x : Option Addr) (c : Nat) (ss : List ByteArray) : Prop :=
  ss.length ≤ c ∧ ss.length ≤ 8796093022208 ∧ (∀ s ∈ ss, s.size ≤ 140737488355328) ∧
    (ss = [] ∨ ∃ b off, x = some ⟨b, off, none⟩ ∧ b < n₀ ∧ ∀ i, i < ss.length → w.cell? ⟨b, off + i, none⟩ = some (.string (ss.getD i ByteArray.empty)))
theorem Strs.at {w : World} {x : Option Addr} {c : Nat} {ss : List ByteArray} (h : Strs w x c ss) : StrsAt w.heap.size w x c ss := h
theorem StrsAt.below {n₀ : Nat} {w w' : World} {x : Option Addr} {c : Nat} {ss : List ByteArray} (h : StrsAt n₀ w x c ss) (k : Below n₀ w w') : StrsAt n₀ w' x c ss := by
  obtain ⟨h1, h2, h3, h4⟩ := h
  refine ⟨h1, h2, h3, ?_⟩
  rcases h4 with h4 | ⟨b, off, hx, hb, hc⟩
  · exact Or.inl h4
  · exact Or.inr ⟨b, off, hx, hb, fun i hi => by rw [k.cell (p := ⟨b, off + i, none⟩) hb]; exact hc i hi⟩
theorem StrsAt.strs {n₀ : Nat} {w : World} {x : Option Addr} {c : Nat} {ss : List ByteArray} (h : StrsAt n₀ w x c ss) (hn : n₀ ≤ w.heap.size) : Strs w x c ss := by
  obtain ⟨h1, h2, h3, h4⟩ := h
  refine ⟨h1, h2, h3, ?_⟩
  rcases h4 with h4 | ⟨b, off, hx, hb, hc⟩
  · exact Or.inl h4
  · exact Or.inr ⟨b, off, hx, by omega, hc⟩

/-- A name's labels as bytes. -/
abbrev labs (n : List ByteArray) : List (List Int) := n.map Nm.bs
theorem labs_lab (n : List ByteArray) (i : Nat) : Cp.lab (labs n) i = Nm.bs (n.getD i ByteArray.empty) := by
  unfold Cp.lab labs
  simp only [List.getD, List.getElem?_map]
  cases n[i]? with
  | none => rfl
  | some s => rfl
theorem labs_lab_len (n : List ByteArray) (i : Nat) : (Cp.lab (labs n) i).length = (n.getD i ByteArray.empty).size := by rw [labs_lab, bs_length]
theorem labs_at (n : List ByteArray) (i j : Nat) (h : j < (n.getD i ByteArray.empty).size) : Cp.at2 (labs n) i j = ((n.getD i ByteArray.empty)[j].toNat : Int) := by
  unfold Cp.at2
  rw [labs_lab]
  have h' : j < (Nm.bs (n.getD i ByteArray.empty)).length := by rw [bs_length]; exact h
  rw [List.getD_eq_getElem?_getD, List.getElem?_eq_getElem h', Option.getD_some, bs_get _ _ h]

set_option maxHeartbeats 400000 in
theorem letters_any (x : Option Addr) (l c : Nat) (w : World) : Calls Tryd.prog 12 #[.slice x l c] w fun e w' => e = .returned (.func (.func 19) #[] #[.pointer (some ⟨w.heap.size, 0, none⟩)]) ∧ w' = w.alloc (.cells #[.slice x l c] 22) := by
  go_enter Tryd.func12, Tryd.ntmps12
  go_wp2
  go_ret
  exact ⟨rfl, rfl⟩

set_option maxRecDepth 100000 in
set_option maxHeartbeats 4000000 in
theorem letters1_in (q : Nat) (hq : 1 ≤ q) (lp Bs n₀ : Nat) (x : Option Addr) (c : Nat) (ns : List ByteArray) (J Jx : List (Cp.Pos (labs ns)) → World → Prop)
    (hY : ∀ pre (p : Cp.Pos (labs ns)) W, J pre W → pre.length < (Cp.posN (labs ns)).length → YieldAt Fence.wide (q - 1) Tryd.prog lp #[.int .i64 (p.1.1 : Int), .int .i64 (p.1.2 : Int)] W fun e W' =>
      (e = .returned (.bool true) ∧ J (pre ++ [p]) W' ∧ Below n₀ W W') ∨ (e = .returned (.bool false) ∧ Jx (pre ++ [p]) W'))
    (W : World) (hBs : W.cell? ⟨Bs, 0, none⟩ = some (.slice x ns.length c)) (hS : StrsAt n₀ W x c ns) (h0 : J [] W) :
    CallsIn Fence.wide q Tryd.prog 19 #[.func (.yield lp) #[] #[], .pointer (some ⟨Bs, 0, none⟩)] W fun e W' => (∃ v, e = .returned v) ∧
      ((∃ ys, ys = Cp.posN (labs ns) ∧ J ys W') ∨ (∃ pre, pre <+: Cp.posN (labs ns) ∧ Jx pre W')) := by
  have hl : ns.length ≤ 8796093022208 := hS.2.1
  refine callsIn_of_wp Tryd.func19 rfl trivial ?_ rfl
  simp only [Tryd.ntmps19, List.size_toArray, List.length_cons, List.length_nil, Nat.reduceAdd, Nat.reduceSub, Array.replicate_succ, Array.replicate_zero, List.push_toArray, List.append_toArray, List.nil_append, List.cons_append]
  gi_wp2
  gi_loopw [8] (fun i wr => ∃ k : Nat, k ≤ ns.length ∧ i = .int .i64 (k : Int) ∧ J (Cp.posTo (labs ns) k 0) wr ∧ Below n₀ W wr) (fun i _ => ns.length - (intOf i).toNat)
  case atStart => exact ⟨0, Nat.zero_le _, rfl, h0, Below.refl _ _⟩
  case round =>
    obtain ⟨k, hk, rfl, hJ, hnx⟩ := hrel
    obtain ⟨w3, hw3⟩ : ∃ u, u = wr := ⟨_, rfl⟩
    subst hw3
    by_cases h1 : k < ns.length
    · obtain ⟨_, _, sa, da⟩ := hS.below hnx
      rcases da with da | ⟨ba, oa, rfl, hba, qa⟩
      · rw [da] at h1; simp at h1
      have fa := qa k h1
      have na := getD_mem_size sa k
      have EL := hid (labs_lab_len ns k)
      have EA := hid (labs_at ns k)
      have HJ := hid hJ
      clear qa sa hJ
      generalize ns.getD k ByteArray.empty = s at *
      gi_wp2
      gi_loopw [15] (fun j wr => ∃ m : Nat, m ≤ s.size ∧ j = .int .i64 (m : Int) ∧ J (Cp.posTo (labs ns) k m) wr ∧ Below n₀ W wr) (fun j _ => s.size - (intOf j).toNat)
      case atStart => exact ⟨0, Nat.zero_le _, rfl, HJ.out, hnx⟩
      case round =>
        obtain ⟨m, hm, rfl, hJ2, hnx2⟩ := hrel
        by_cases h2 : m < s.size
        · have EA2 := EA.out m h2
          have EB := u8_bound s[m]
          obtain ⟨b, hb⟩ : ∃ b, Cp.isL (s[m].toNat : Int) = b := ⟨_, rfl⟩
          cases b
          · have hno : ¬ Cp.ok (labs ns) k m := fun q => by have := q.2.2; rw [EA2, hb] at this; cases this
            have HE := hid (Cp.posTo_none hno)
            have HB := hid hb
            clear hb EA2 EA EL hno
            gi_wp2_with (refine ⟨trivial, ?_⟩; gi_at_call 20; refine (callsIn_wide.2 (isLetter_at false _ _ EB.1 EB.2 HB.out)).mono ?_; rintro e w' ⟨rfl, rfl⟩)
            refine ⟨fun _ h => (by cases h), ?_⟩
            gi_wp2
            go_roundw
            case rel => exact ⟨m + 1, by omega, by simp, by rw [HE.out]; exact hJ2, hnx2⟩
            case measure => simp [intOf]; omega
          · have hok : Cp.ok (labs ns) k m := ⟨by simpa using h1, by rw [EL.out]; exact h2, by rw [EA2]; exact hb⟩
            have HE := hid (Cp.posTo_letter hok)
            have HP := hid (Cp.posTo_prefix (labs ns) hok.1 (j := m + 1) hok.2.1)
            obtain ⟨fn, tmps, assign, body, hy, hR⟩ := hY _ ⟨(k, m), hok⟩ wr hJ2 (Cp.posTo_lt hok)
            dsimp only at hy
            have HB := hid hb
            clear hb EA2 EA EL
            gi_wp2_with (refine ⟨trivial, ?_⟩; gi_at_call 20; refine (callsIn_wide.2 (isLetter_at true _ _ EB.1 EB.2 HB.out)).mono ?_; rintro e w' ⟨rfl, rfl⟩)
            refine hR.mono ?_
            rintro e W3 (⟨rfl, hJ3, hk3⟩ | ⟨rfl, hJx3⟩)
            · gi_wp2
              go_roundw
              case rel => exact ⟨m + 1, by omega, by simp, by rw [HE.out]; exact hJ3, hnx2.trans hk3⟩
              case measure => simp [intOf]; omega
            · gi_wp2
              refine bodyPost_ret (results_none rfl _ _ _) rfl ?_
              exact ⟨⟨_, rfl⟩, .inr ⟨_, HP.out, by rw [HE.out]; exact hJx3⟩⟩
        · have em : m = s.size := by omega
          subst em
          have HR := hid (Cp.posTo_row (L := labs ns) (i := k) EL.out.symm)
          clear EA EL
          gi_wp2
          go_roundw
          case rel => exact ⟨k + 1, by omega, by simp, by rw [← HR.out]; exact hJ2, hnx2⟩
          case measure => simp [intOf]; omega
    · obtain rfl : k = ns.length := by omega
      gi_wp2
      go_end0
      exact ⟨⟨_, rfl⟩, .inl ⟨_, Cp.posTo_end (by simp), hJ⟩⟩

theorem letters_stops (q : Nat) (hq : 1 ≤ q) (Bs n₀ : Nat) (x : Option Addr) (c : Nat) (ns : List ByteArray) (w : World) (hBs : Bs < w.heap.size) (hn₀ : n₀ ≤ w.heap.size)
    (hc : w.cell? ⟨Bs, 0, none⟩ = some (.slice x ns.length c)) (hS : StrsAt n₀ w x c ns) :
    SeqStopsK Fence.wide q Tryd.prog 19 #[.pointer (some ⟨Bs, 0, none⟩)] (fun p : Cp.Pos (labs ns) => #[Value.int .i64 (p.1.1 : Int), Value.int .i64 (p.1.2 : Int)]) (Below n₀) (fun ys => ys = Cp.posN (labs ns)) (fun pre => pre <+: Cp.posN (labs ns)) (Cp.posN (labs ns)).length w :=
  fun l J Jx W hW _ _ hY h0 => letters1_in q hq l Bs n₀ x c ns J Jx hY W ((hW.cell (p := ⟨Bs, 0, none⟩) hBs).trans hc) (hS.below (hW.mono hn₀)) h0

set_option maxRecDepth 100000 in
set_option maxHeartbeats 4000000 in
theorem Letters_any (x : Option Addr) (c : Nat) (ns : List ByteArray) (w : World) (hS : Strs w x c ns) (hN : (Cp.posN (labs ns)).length ≤ 4611686018427387904) :
    Calls Tryd.prog 6 #[.slice x ns.length c] w fun e w' => e = .returned (.int .i64 ((Cp.posN (labs ns)).length : Int)) ∧ Below w.heap.size w w' := by
  refine (callsIn_wide (n := 4)).1 ?_
  refine callsIn_of_wp_marks Tryd.func6 rfl trivial ?_ rfl
  simp only [Tryd.ntmps6, List.size_toArray, List.length_cons, List.length_nil, Nat.reduceAdd, Nat.reduceSub, Array.replicate_succ, Array.replicate_zero, List.push_toArray, List.append_toArray, List.nil_append, List.cons_append]
  gi_wp2_with (refine ⟨trivial, ?_⟩; gi_at_call 12; refine (callsIn_wide.2 (letters_any _ _ _ _)).mono ?_; rintro e w' ⟨rfl, rfl⟩)
  have bS := Boxed.new w 3 (.int .i64 0)
  have bN := Boxed.new (w.alloc (.cells #[.int .i64 0] 3)) 22 (.slice x ns.length c)
  rw [World.size_alloc] at bN
  have hB0 : Below w.heap.size w ((w.alloc (.cells #[.int .i64 0] 3)).alloc (.cells #[.slice x ns.length c] 22)) := ((Below.refl _ w).alloc (Nat.le_refl _) _).alloc (by simp) _
  refine wpIn_rangeFunc_ownG rfl (by decide) (gf := 19) (lb := #[.pointer (some ⟨w.heap.size + 1, 0, none⟩)]) rfl trivial (enters_of Tryd.func19 (by kernel_rfl) rfl)
    (letters_stops 3 (by decide) (w.heap.size + 1) w.heap.size x c ns _ (by simp) (by simp; omega) bN.cell (hS.at.below hB0)) belowK_t (belowK_b (by simp; omega)) (Below.refl _ _) (fun _ => rfl)
    (fun pre W => (W.cell? ⟨w.heap.size, 0, none⟩ = some (.int .i64 (pre.length : Int)) ∧ W.frozen? ⟨w.heap.size, 0, none⟩ = false) ∧ Below w.heap.size w W)
    (fun _ _ _ => False)
    (OwnFrom.and (Own.from (fun s A B row hs hg hr => ⟨cell_kept hs.1 hg hr, (frozen_kept hs.1 hg hr).trans hs.2⟩) _) (ownFrom_below (Nat.le_refl _) (by simp; omega)))
    (fun _ _ _ _ _ hs _ _ => hs)
    ⟨⟨(bS.alloc _).cell, (bS.alloc _).frozen⟩, hB0⟩
    (fun p => { tmps := #[.slice x ns.length c, undef, .int .i64 0, .pointer (some ⟨w.heap.size, 0, none⟩), .slice x ns.length c, .func (.func 19) #[] #[.pointer (some ⟨w.heap.size + 1, 0, none⟩)], .int .i64 (p.1.1 : Int), .int .i64 (p.1.2 : Int), undef, undef, undef], defers := [] }) ?assign ?body ?done ?stop
  case assign =>
    intro l x W K hK
    gi_wp2
    simpa using hK
  case body =>
    rintro l pre p W ⟨⟨hc, hf⟩, hB⟩ hlt
    gi_wp2
    exact ⟨(KeepsOthers.setCell _ _ _).from _, (Below.refl w.heap.size W).setCell (p := ⟨w.heap.size, 0, none⟩) (Nat.le_refl _) _, ⟨by simpa using World.cell?_setCell_same' _ _ _ (by rw [hc]; rfl), by rw [World.frozen?_setCell]; exact hf⟩, hB.setCell (p := ⟨w.heap.size, 0, none⟩) (Nat.le_refl _) _⟩
  case done =>
    rintro D ys W hD rfl ⟨⟨hc, _⟩, hB⟩ hK
    gi_wp2
    refine ⟨by simp, .inl ⟨_, _, rfl, run_takeDeferred hK, ?_⟩⟩
    exact ⟨_, results_tmp rfl _ _ _, rfl, hB.trans (belowK_b (w := w) (Nat.le_refl _) W D _ _ (by simp at hD; omega) hK rfl rfl)⟩
  case stop =>
    rintro D c pre W _ _ h _
    exact h.elim

end Go.Proofs.YtgfplkhcihcagabDoor
