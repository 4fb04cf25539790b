/-
  The walk of package trie's fork.
-/
import Derived.Test.YtoakpkpdipgfoaaTrieB
import Derived.Test.YtoakpkpdipgfoaaTrieC
namespace Go.Proofs.Ytoakpkpdipgfoaa
open Go.RowKit Go.Deep

/-- Worlds in which all old blocks are as they were. -/
structure Kept (B : Nat) (w : World) where
  val : World
  keeps : Below B w val

theorem Bl.kept {t : TypeId} {w : World} {b B : Nat} {C : Array Value} (h : Bl t w b C) (hb : b < B) (s : Kept B w) : Bl t s.val b C := h.under hb s.keeps

theorem node_range {t : TypeId} {w : World} {b : Nat} {a : List Int} {n : Int} {v h p q : Value} (k : Bl t w b #[.int .u8 (byt a 0), .int .u8 (byt a 1), .int .u8 (byt a 2), .int .u8 (byt a 3), .int .u8 (byt a 4), .int .u8 (byt a 5), .int .u8 (byt a 6), .int .u8 (byt a 7), .int .u8 (byt a 8), .int .u8 (byt a 9), .int .u8 (byt a 10), .int .u8 (byt a 11), .int .u8 (byt a 12), .int .u8 (byt a 13), .int .u8 (byt a 14), .int .u8 (byt a 15), .int .i64 n, v, h, p, q]) : w.rangeAt b 0 [.int .u8 (byt a 0), .int .u8 (byt a 1), .int .u8 (byt a 2), .int .u8 (byt a 3), .int .u8 (byt a 4), .int .u8 (byt a 5), .int .u8 (byt a 6), .int .u8 (byt a 7), .int .u8 (byt a 8), .int .u8 (byt a 9), .int .u8 (byt a 10), .int .u8 (byt a 11), .int .u8 (byt a 12), .int .u8 (byt a 13), .int .u8 (byt a 14), .int .u8 (byt a 15), .int .i64 n] := by
  intro j x hj
  rw [Nat.zero_add]
  refine k.cell ?_
  have hj17 : j < 17 := (List.getElem?_eq_some_iff.1 hj).1
  rw [← hj]
  generalize hL : ([.int .u8 (byt a 0), .int .u8 (byt a 1), .int .u8 (byt a 2), .int .u8 (byt a 3), .int .u8 (byt a 4), .int .u8 (byt a 5), .int .u8 (byt a 6), .int .u8 (byt a 7), .int .u8 (byt a 8), .int .u8 (byt a 9), .int .u8 (byt a 10), .int .u8 (byt a 11), .int .u8 (byt a 12), .int .u8 (byt a 13), .int .u8 (byt a 14), .int .u8 (byt a 15), .int .i64 n] : List Value) = L at *
  have hl : L.length = 17 := by rw [← hL]; rfl
  have e : (#[.int .u8 (byt a 0), .int .u8 (byt a 1), .int .u8 (byt a 2), .int .u8 (byt a 3), .int .u8 (byt a 4), .int .u8 (byt a 5), .int .u8 (byt a 6), .int .u8 (byt a 7), .int .u8 (byt a 8), .int .u8 (byt a 9), .int .u8 (byt a 10), .int .u8 (byt a 11), .int .u8 (byt a 12), .int .u8 (byt a 13), .int .u8 (byt a 14), .int .u8 (byt a 15), .int .i64 n, v, h, p, q] : Array Value) = (L ++ [v, h, p, q]).toArray := by rw [← hL]; rfl
  rw [e, List.getElem?_toArray, List.getElem?_append_left (by omega)]

theorem beg_range {t : TypeId} {w : World} {b : Nat} {a : List Int} {n : Int} (k : Bl t w b #[.int .u8 (byt a 0), .int .u8 (byt a 1), .int .u8 (byt a 2), .int .u8 (byt a 3), .int .u8 (byt a 4), .int .u8 (byt a 5), .int .u8 (byt a 6), .int .u8 (byt a 7), .int .u8 (byt a 8), .int .u8 (byt a 9), .int .u8 (byt a 10), .int .u8 (byt a 11), .int .u8 (byt a 12), .int .u8 (byt a 13), .int .u8 (byt a 14), .int .u8 (byt a 15), .int .i64 n]) : w.rangeAt b 0 [.int .u8 (byt a 0), .int .u8 (byt a 1), .int .u8 (byt a 2), .int .u8 (byt a 3), .int .u8 (byt a 4), .int .u8 (byt a 5), .int .u8 (byt a 6), .int .u8 (byt a 7), .int .u8 (byt a 8), .int .u8 (byt a 9), .int .u8 (byt a 10), .int .u8 (byt a 11), .int .u8 (byt a 12), .int .u8 (byt a 13), .int .u8 (byt a 14), .int .u8 (byt a 15), .int .i64 n] := fun j x hj => by
  rw [Nat.zero_add]; exact k.cell (by simpa using hj)

set_option maxHeartbeats 2000000 in
set_option maxRecDepth 100000 in
theorem fork_at (d : Bool) (b : Nat) (a : List Int) (n : Int) (s : Nat) (v h p q : Value) (w : World) (k : Bl 56 w b #[.int .u8 (byt a 0), .int .u8 (byt a 1), .int .u8 (byt a 2), .int .u8 (byt a 3), .int .u8 (byt a 4), .int .u8 (byt a 5), .int .u8 (byt a 6), .int .u8 (byt a 7), .int .u8 (byt a 8), .int .u8 (byt a 9), .int .u8 (byt a 10), .int .u8 (byt a 11), .int .u8 (byt a 12), .int .u8 (byt a 13), .int .u8 (byt a 14), .int .u8 (byt a 15), .int .i64 n, v, h, p, q]) (ba : ∀ x ∈ a, 0 ≤ x ∧ x ≤ 255) (hs : s < 128) (hd : bitN a s = if d then 1 else 0) :
    Calls Try.prog 20 #[.pointer (some ⟨b, 0, none⟩), .int .i64 (s : Int)] w fun e w' => e = .returned (.pointer (some ⟨w.heap.size, 0, none⟩)) ∧
      Bl 56 w' w.heap.size #[.int .u8 (byt a 0), .int .u8 (byt a 1), .int .u8 (byt a 2), .int .u8 (byt a 3), .int .u8 (byt a 4), .int .u8 (byt a 5), .int .u8 (byt a 6), .int .u8 (byt a 7), .int .u8 (byt a 8), .int .u8 (byt a 9), .int .u8 (byt a 10), .int .u8 (byt a 11), .int .u8 (byt a 12), .int .u8 (byt a 13), .int .u8 (byt a 14), .int .u8 (byt a 15), .int .i64 (s : Int), .int .i64 0, .bool false, if d then .pointer none else .pointer (some ⟨b, 0, none⟩), if d then .pointer (some ⟨b, 0, none⟩) else .pointer none] ∧ Below w.heap.size w w' := by
  have hlt := k.lt
  have hne : ¬ b = w.heap.size := by omega
  have HLD : Hid (∀ u, Below w.heap.size w u → u.rangeAt b 0 [.int .u8 (byt a 0), .int .u8 (byt a 1), .int .u8 (byt a 2), .int .u8 (byt a 3), .int .u8 (byt a 4), .int .u8 (byt a 5), .int .u8 (byt a 6), .int .u8 (byt a 7), .int .u8 (byt a 8), .int .u8 (byt a 9), .int .u8 (byt a 10), .int .u8 (byt a 11), .int .u8 (byt a 12), .int .u8 (byt a 13), .int .u8 (byt a 14), .int .u8 (byt a 15), .int .i64 n]) := hid (fun u hu => node_range (k.under hlt hu))
  have k1 := Bl.new 56 w #[.int .u8 (byt a 0), .int .u8 (byt a 1), .int .u8 (byt a 2), .int .u8 (byt a 3), .int .u8 (byt a 4), .int .u8 (byt a 5), .int .u8 (byt a 6), .int .u8 (byt a 7), .int .u8 (byt a 8), .int .u8 (byt a 9), .int .u8 (byt a 10), .int .u8 (byt a 11), .int .u8 (byt a 12), .int .u8 (byt a 13), .int .u8 (byt a 14), .int .u8 (byt a 15), .int .i64 n, .int .i64 0, .bool false, .pointer none, .pointer none]
  have B1 := hid ((Below.refl w.heap.size w).alloc (Nat.le_refl _) (.cells #[.int .u8 (byt a 0), .int .u8 (byt a 1), .int .u8 (byt a 2), .int .u8 (byt a 3), .int .u8 (byt a 4), .int .u8 (byt a 5), .int .u8 (byt a 6), .int .u8 (byt a 7), .int .u8 (byt a 8), .int .u8 (byt a 9), .int .u8 (byt a 10), .int .u8 (byt a 11), .int .u8 (byt a 12), .int .u8 (byt a 13), .int .u8 (byt a 14), .int .u8 (byt a 15), .int .i64 n, .int .i64 0, .bool false, .pointer none, .pointer none] 56))
  have hinf : (Try.prog.info? 52).map (·.size) = some 17 := by kernel_rfl
  have K1 := hid k1
  clear k1
  go_enter Try.func20, Try.ntmps20
  go_upto_region 2 with (refine wpList_load_mid rfl 52 (.tmp 8) rfl b 0 rfl [.int .u8 (byt a 0), .int .u8 (byt a 1), .int .u8 (byt a 2), .int .u8 (byt a 3), .int .u8 (byt a 4), .int .u8 (byt a 5), .int .u8 (byt a 6), .int .u8 (byt a 7), .int .u8 (byt a 8), .int .u8 (byt a 9), .int .u8 (byt a 10), .int .u8 (byt a 11), .int .u8 (byt a 12), .int .u8 (byt a 13), .int .u8 (byt a 14), .int .u8 (byt a 15), .int .i64 n] _ (HLD.out _ (Below.refl _ _)) Try.underlying52 rfl hinf ?_)
  generalize hW : w.alloc (.cells #[.int .u8 (byt a 0), .int .u8 (byt a 1), .int .u8 (byt a 2), .int .u8 (byt a 3), .int .u8 (byt a 4), .int .u8 (byt a 5), .int .u8 (byt a 6), .int .u8 (byt a 7), .int .u8 (byt a 8), .int .u8 (byt a 9), .int .u8 (byt a 10), .int .u8 (byt a 11), .int .u8 (byt a 12), .int .u8 (byt a 13), .int .u8 (byt a 14), .int .u8 (byt a 15), .int .i64 n, .int .i64 0, .bool false, .pointer none, .pointer none] 56) = W1 at *
  have hz1 : w.heap.size < W1.heap.size := K1.out.lt
  have HW := hid hW
  clear hW
  have y0 : W1.cell? ⟨w.heap.size, 16, none⟩ = some (.int .i64 n) := K1.out.cell (i := 16) rfl
  have y1 : W1.frozen? ⟨w.heap.size, 16, none⟩ = false := K1.out.frozen 16
  have K2 : Hid (∀ W2, W1.setCell ⟨w.heap.size, 16, none⟩ (.int .i64 (s : Int)) = W2 → Bl 56 W2 w.heap.size #[.int .u8 (byt a 0), .int .u8 (byt a 1), .int .u8 (byt a 2), .int .u8 (byt a 3), .int .u8 (byt a 4), .int .u8 (byt a 5), .int .u8 (byt a 6), .int .u8 (byt a 7), .int .u8 (byt a 8), .int .u8 (byt a 9), .int .u8 (byt a 10), .int .u8 (byt a 11), .int .u8 (byt a 12), .int .u8 (byt a 13), .int .u8 (byt a 14), .int .u8 (byt a 15), .int .i64 (s : Int), .int .i64 0, .bool false, .pointer none, .pointer none] ∧ Below w.heap.size w W2) := hid (fun W2 e => by
    rw [← e]; exact ⟨K1.out.set 16 _, B1.out.setCell (Nat.le_refl _) _⟩)
  go_upto_region 3 with fail
  generalize hW2 : W1.setCell ⟨w.heap.size, 16, none⟩ (.int .i64 (s : Int)) = W2 at *
  obtain ⟨k3, b3⟩ := K2.out W2 rfl
  have K3 := hid k3
  have B3 := hid b3
  have hz2 : w.heap.size < W2.heap.size := k3.lt
  clear k3 b3 y0 y1 hz1 hW2 K2 K1 B1 HW
  have hld : ∀ s' : Kept w.heap.size w, (Instr.loadAt 52 (.pointer (some ⟨b, 0, none⟩))).run Try.prog s'.val = .ok (.agg #[.int .u8 (byt a 0), .int .u8 (byt a 1), .int .u8 (byt a 2), .int .u8 (byt a 3), .int .u8 (byt a 4), .int .u8 (byt a 5), .int .u8 (byt a 6), .int .u8 (byt a 7), .int .u8 (byt a 8), .int .u8 (byt a 9), .int .u8 (byt a 10), .int .u8 (byt a 11), .int .u8 (byt a 12), .int .u8 (byt a 13), .int .u8 (byt a 14), .int .u8 (byt a 15), .int .i64 n]) s'.val := fun s' =>
    run_loadAt_mid s'.val b 0 52 [.int .u8 (byt a 0), .int .u8 (byt a 1), .int .u8 (byt a 2), .int .u8 (byt a 3), .int .u8 (byt a 4), .int .u8 (byt a 5), .int .u8 (byt a 6), .int .u8 (byt a 7), .int .u8 (byt a 8), .int .u8 (byt a 9), .int .u8 (byt a 10), .int .u8 (byt a 11), .int .u8 (byt a 12), .int .u8 (byt a 13), .int .u8 (byt a 14), .int .u8 (byt a 15), .int .i64 n] _ (HLD.out _ s'.keeps) Try.underlying52 rfl hinf
  have hNe : Nonempty (Kept w.heap.size w) := ⟨⟨w, Below.refl _ _⟩⟩
  have HI := hid hinf
  clear hinf
  cases d
  all_goals
    simp only [Bool.false_eq_true, if_false, if_true] at hd ⊢
    have HD := hid hd
    clear hd
    refine wp_region_forkA [0, 1, 2, 3, 4, 5, 7, 8, 9] (.one 6 (.one 10 (.one 11 .nil))) (fun u => ∃ s' : Kept w.heap.size w, u = s'.val) (by kernel_rfl) (by kernel_rfl) (by kernel_rfl) ⟨⟨_, B3.out.drew⟩, rfl⟩ ?_
    change wpQuiet _ _ _ _ [_, _, _, _, _, _, _, _, _] _
    repeat (go_big_quiet_step (fail))
    refine wpQuiet_load 52 (.tmp 20) rfl _ _ rfl (fun u hu => by obtain ⟨s', rfl⟩ := hu; exact hld s') ?_
    simp only [Act.put, List.setIfInBounds_toArray, List.set_cons_succ, List.set_cons_zero]
    repeat (go_big_quiet_step (fail))
    refine wpQuiet_nil ?_
    have HB0 := Below.drew (Below.refl W2.heap.size W2)
    have CB := hid (bit_at a n s W2.drew ba hs)
    rw [HD.out] at CB
    change stepL _ _ _ _ _ _ _ _ _
    refine stepL_at (by rfl) fun K Q' hK => ?_
    go_simp
    refine CB.out.mono ?_
    rintro e w4 ⟨rfl, d4⟩
    have BW : Below W2.heap.size W2 w4 := HB0.trans d4
    have BZ : Below w.heap.size w w4 := B3.out.trans (BW.mono (Nat.le_of_lt hz2))
    refine hK _ _ (fun _ => ⟨⟨_, BZ⟩, rfl⟩) ?_
    clear hK
    change stepL _ _ _ _ _ _ _ _ _
    refine stepL_at (by rfl) fun K Q' hK => ?_
    go_simp
    refine hK _ _ (fun _ => ⟨⟨_, BZ⟩, rfl⟩) ?_
    clear hK
    have K4 := hid (K3.out.below BW)
    have y0 : w4.cell? ⟨w.heap.size, 19, none⟩ = some (.pointer none) := K4.out.cell (i := 19) rfl
    have y1 : w4.cell? ⟨w.heap.size, 20, none⟩ = some (.pointer none) := K4.out.cell (i := 20) rfl
    have y2 : w4.frozen? ⟨w.heap.size, 19, none⟩ = false := K4.out.frozen 19
    have y3 : w4.frozen? ⟨w.heap.size, 20, none⟩ = false := K4.out.frozen 20
    have BH := hid BZ
    clear BZ BW d4 CB HB0
    change stepL _ _ _ _ _ _ _ _ _
    refine stepL_at (by rfl) fun K Q' hK => ?_
    go_simp
    refine hK _ _ (fun _ => ⟨⟨_, BH.out.setCell (Nat.le_refl _) _⟩, rfl⟩) ?_
    clear hK
    refine treeL_nil ?_
    go_wp2
    go_ret
    exact ⟨rfl, K4.out.set _ _, BH.out.setCell (Nat.le_refl _) _⟩

end Go.Proofs.Ytoakpkpdipgfoaa
