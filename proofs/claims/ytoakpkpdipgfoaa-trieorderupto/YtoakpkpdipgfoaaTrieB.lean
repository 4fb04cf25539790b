/-
  The walks of package trie: begin, common, bit.
-/
import Derived.Test.YtoakpkpdipgfoaaTrieA
import Derived.Test.YtoakpkpdipgfoaaForks
import Derived.Deep.Cut
import Derived.Deep.CutRange
import Derived.Deep.RegionHeld3
import Derived.Deep.MidRow
namespace Go.Proofs.Ytoakpkpdipgfoaa
open Go.RowKit Go.Deep

theorem results_cell {fn : Func} {p : Tmp} {ty : TypeId} (h : fn.results = #[.cell p ty]) (tmps : Array Value) (P : Program) (w : World) :
    (results fn tmps).run P w = ((asAddr (tmps.getD p undef)).run P w).andThen fun a w₁ => (loadVar ty a).run P w₁ := by
  simp only [results, h]
  simp [Sem.run_bind, Result.andThen]

theorem results_begin (tmps : Array Value) (w : World) (b : Nat) (v0 v1 v2 v3 v4 v5 v6 v7 v8 v9 v10 v11 v12 v13 v14 v15 v16 : Value) (hp : tmps.getD 4 undef = .pointer (some ⟨b, 0, none⟩)) (hb : Bl 52 w b #[v0, v1, v2, v3, v4, v5, v6, v7, v8, v9, v10, v11, v12, v13, v14, v15, v16]) :
    (results Try.f16 tmps).run Try.prog w = .ok (.agg #[v0, v1, v2, v3, v4, v5, v6, v7, v8, v9, v10, v11, v12, v13, v14, v15, v16]) w := by
  have hl := run_loadVar_mid (P := Try.prog) w b 0 52 [v0, v1, v2, v3, v4, v5, v6, v7, v8, v9, v10, v11, v12, v13, v14, v15, v16] _ (fun j v hj => by rw [Nat.zero_add]; exact hb.cell (by simpa using hj)) Try.underlying52 rfl (by kernel_rfl)
  rw [results_cell Try.results16, hp]
  simp only [asAddr, Sem.run_pure, Result.andThen_ok, hl]

theorem Bl.row {t : TypeId} {w : World} {b : Nat} {C : Array Value} (h : Bl t w b C) (C' : Array Value) : Bl t (w.setRow b C') b C' := setRow_heap w b C C' t _ h

theorem Bl.rowFar {t : TypeId} {w : World} {b g : Nat} {C : Array Value} (h : Bl t w b C) (hg : b ≠ g) (C' : Array Value) : Bl t (w.setRow g C') b C := by
  unfold Bl at h ⊢
  rw [setRow_other w g b C' hg, h]

/-- A whole row is stored. -/
theorem run_storeRow {t : TypeId} {w : World} {b : Nat} {C C' : Array Value} (h : Bl t w b C) {n : Nat} (hi : (Try.prog.info? t).map (·.size) = some n) (hn : C'.size = n) (ho : C.size = n) (h1 : C'.all (·.oneCell') = true := by simp [Value.oneCell']) :
    (Instr.storeAt t (.pointer (some ⟨b, 0, none⟩)) (.agg C')).run Try.prog w = .ok () (w.setRow b C') := by
  simp only [Instr.storeAt, Instr.sureAddr, Sem.run_bind, Sem.run_pure, Result.andThen_ok, run_storeVar_row w b t t C C' h (by rw [hi, hn]) (by rw [ho, hn]) h1]

/-- A whole row is read. -/
theorem run_loadRow {t t' : TypeId} {w : World} {b : Nat} {C : Array Value} (h : Bl t' w b C) (L : List Value) {d : TypeDesc} (hu : Try.prog.underlying t = some d) (hd : d.isRow = true) (hi : (Try.prog.info? t).map (·.size) = some L.length) (hL : ∀ (j : Nat) (v : Value), L[j]? = some v → C[j]? = some v) :
    (Instr.loadAt t (.pointer (some ⟨b, 0, none⟩))).run Try.prog w = .ok (.agg L.toArray) w :=
  run_loadAt_mid w b 0 t L d (fun j v hj => by rw [Nat.zero_add]; exact h.cell (hL j v hj)) hu hd hi

/-- The seventeen cells of a beginning. -/
theorem Bl.beg {t : TypeId} {w : World} {b : Nat} {a : List Int} {n : Int} (h : Bl t w b #[.int .u8 (byt a 0), .int .u8 (byt a 1), .int .u8 (byt a 2), .int .u8 (byt a 3), .int .u8 (byt a 4), .int .u8 (byt a 5), .int .u8 (byt a 6), .int .u8 (byt a 7), .int .u8 (byt a 8), .int .u8 (byt a 9), .int .u8 (byt a 10), .int .u8 (byt a 11), .int .u8 (byt a 12), .int .u8 (byt a 13), .int .u8 (byt a 14), .int .u8 (byt a 15), .int .i64 n]) :
    w.cell? ⟨b, 0, none⟩ = some (.int .u8 (byt a 0)) ∧ w.cell? ⟨b, 1, none⟩ = some (.int .u8 (byt a 1)) ∧ w.cell? ⟨b, 2, none⟩ = some (.int .u8 (byt a 2)) ∧ w.cell? ⟨b, 3, none⟩ = some (.int .u8 (byt a 3)) ∧ w.cell? ⟨b, 4, none⟩ = some (.int .u8 (byt a 4)) ∧ w.cell? ⟨b, 5, none⟩ = some (.int .u8 (byt a 5)) ∧ w.cell? ⟨b, 6, none⟩ = some (.int .u8 (byt a 6)) ∧ w.cell? ⟨b, 7, none⟩ = some (.int .u8 (byt a 7)) ∧ w.cell? ⟨b, 8, none⟩ = some (.int .u8 (byt a 8)) ∧ w.cell? ⟨b, 9, none⟩ = some (.int .u8 (byt a 9)) ∧ w.cell? ⟨b, 10, none⟩ = some (.int .u8 (byt a 10)) ∧ w.cell? ⟨b, 11, none⟩ = some (.int .u8 (byt a 11)) ∧ w.cell? ⟨b, 12, none⟩ = some (.int .u8 (byt a 12)) ∧ w.cell? ⟨b, 13, none⟩ = some (.int .u8 (byt a 13)) ∧ w.cell? ⟨b, 14, none⟩ = some (.int .u8 (byt a 14)) ∧ w.cell? ⟨b, 15, none⟩ = some (.int .u8 (byt a 15)) ∧ w.cell? ⟨b, 16, none⟩ = some (.int .i64 n) :=
  ⟨h.cell (i := 0) rfl, h.cell (i := 1) rfl, h.cell (i := 2) rfl, h.cell (i := 3) rfl, h.cell (i := 4) rfl, h.cell (i := 5) rfl, h.cell (i := 6) rfl, h.cell (i := 7) rfl, h.cell (i := 8) rfl, h.cell (i := 9) rfl, h.cell (i := 10) rfl, h.cell (i := 11) rfl, h.cell (i := 12) rfl, h.cell (i := 13) rfl, h.cell (i := 14) rfl, h.cell (i := 15) rfl, h.cell (i := 16) rfl⟩

set_option maxHeartbeats 1000000 in
set_option maxRecDepth 100000 in
theorem begin_at {x : Option Addr} {c l : Nat} (A : List Int) (n : Int) (w : World) (h : Bys w x c A) (hl : A.length = l) (h16 : A.length ≤ 16) :
    Calls Try.prog 16 #[.slice x l c, .int .i64 n] w fun e w' => e = .returned (.agg #[.int .u8 (byt (padN A) 0), .int .u8 (byt (padN A) 1), .int .u8 (byt (padN A) 2), .int .u8 (byt (padN A) 3), .int .u8 (byt (padN A) 4), .int .u8 (byt (padN A) 5), .int .u8 (byt (padN A) 6), .int .u8 (byt (padN A) 7), .int .u8 (byt (padN A) 8), .int .u8 (byt (padN A) 9), .int .u8 (byt (padN A) 10), .int .u8 (byt (padN A) 11), .int .u8 (byt (padN A) 12), .int .u8 (byt (padN A) 13), .int .u8 (byt (padN A) 14), .int .u8 (byt (padN A) 15), .int .i64 n]) ∧ Below w.heap.size w w' := by
  subst hl
  obtain ⟨hlc, hl2, hbs, hd⟩ := h
  obtain ⟨i0, hi, hz0, hz1, hz2⟩ := info_of_byte
  have hsz : (Try.prog.info? 5).map (·.size) = some 1 := by rw [hi]; simp [hz1]
  have HS := hid (pad_splice h16 n)
  obtain ⟨X, hX⟩ : ∃ X, A.map (Value.int .u8) = X := ⟨_, rfl⟩
  have hXl : Hid (X.length = A.length) := hid (by rw [← hX]; simp)
  have hX1 : Hid (∀ v ∈ X, v.oneCell' = true) := hid (by rw [← hX]; intro v hv; obtain ⟨y, _, rfl⟩ := List.mem_map.1 hv; rfl)
  have hXm : Hid (X.length = Nat.min A.length 16) := hid (by rw [hXl.out]; exact (Nat.min_eq_left h16).symm)
  have hXf : Hid (0 + X.length ≤ 17) := hid (by rw [hXl.out]; omega)
  have hsrc : Hid (0 < X.length → ∃ ad, x = some ad ∧ ∀ u, Below w.heap.size w u → ∀ j v, X[j]? = some v → u.cell? (ad.add j) = some v) := hid (by
    intro hp
    rcases hd with e | ⟨b, off, rfl, hlt, q⟩
    · rw [hXl.out, e] at hp; simp at hp
    · refine ⟨_, rfl, fun u hu j v hj => ?_⟩
      have hjl : j < A.length := by
        rcases Nat.lt_or_ge j A.length with q2 | q2
        · exact q2
        · rw [← hX, List.getElem?_eq_none (by simpa using q2)] at hj; cases hj
      rw [show (⟨b, off, none⟩ : Addr).add j = ⟨b, off + j, none⟩ by simp [Addr.add], hu.cell (p := ⟨b, off + j, none⟩) hlt, q j hjl]
      rw [← hX, List.getElem?_map, List.getElem?_eq_getElem hjl] at hj
      rw [List.getD_eq_getElem?_getD, List.getElem?_eq_getElem hjl]
      simpa using hj)
  rw [hX] at HS
  clear hX hd
  have k1 := hid (Bl.new 52 w #[.int .u8 0, .int .u8 0, .int .u8 0, .int .u8 0, .int .u8 0, .int .u8 0, .int .u8 0, .int .u8 0, .int .u8 0, .int .u8 0, .int .u8 0, .int .u8 0, .int .u8 0, .int .u8 0, .int .u8 0, .int .u8 0, .int .i64 0])
  have B0 := hid ((Below.refl w.heap.size w).alloc (Nat.le_refl _) (.cells #[.int .u8 0, .int .u8 0, .int .u8 0, .int .u8 0, .int .u8 0, .int .u8 0, .int .u8 0, .int .u8 0, .int .u8 0, .int .u8 0, .int .u8 0, .int .u8 0, .int .u8 0, .int .u8 0, .int .u8 0, .int .u8 0, .int .i64 0] 52))
  have hs : (w.alloc (.cells #[.int .u8 0, .int .u8 0, .int .u8 0, .int .u8 0, .int .u8 0, .int .u8 0, .int .u8 0, .int .u8 0, .int .u8 0, .int .u8 0, .int .u8 0, .int .u8 0, .int .u8 0, .int .u8 0, .int .u8 0, .int .u8 0, .int .i64 0] 52)).heap.size = w.heap.size + 1 := by simp
  have hinf : (Try.prog.info? 52).map (·.size) = some 17 := by kernel_rfl
  go_enter Try.func16, Try.ntmps16
  go_upto_region 1 with fail
  generalize w.alloc (.cells #[.int .u8 0, .int .u8 0, .int .u8 0, .int .u8 0, .int .u8 0, .int .u8 0, .int .u8 0, .int .u8 0, .int .u8 0, .int .u8 0, .int .u8 0, .int .u8 0, .int .u8 0, .int .u8 0, .int .u8 0, .int .u8 0, .int .i64 0] 52) = W1 at *
  have k2 := Bl.new 52 W1 #[.int .u8 0, .int .u8 0, .int .u8 0, .int .u8 0, .int .u8 0, .int .u8 0, .int .u8 0, .int .u8 0, .int .u8 0, .int .u8 0, .int .u8 0, .int .u8 0, .int .u8 0, .int .u8 0, .int .u8 0, .int .u8 0, .int .i64 0]
  rw [hs] at k2
  have K1 : Hid (∀ W2, (W1.alloc (.cells #[.int .u8 0, .int .u8 0, .int .u8 0, .int .u8 0, .int .u8 0, .int .u8 0, .int .u8 0, .int .u8 0, .int .u8 0, .int .u8 0, .int .u8 0, .int .u8 0, .int .u8 0, .int .u8 0, .int .u8 0, .int .u8 0, .int .i64 0] 52)).setRow (w.heap.size + 1) #[.int .u8 0, .int .u8 0, .int .u8 0, .int .u8 0, .int .u8 0, .int .u8 0, .int .u8 0, .int .u8 0, .int .u8 0, .int .u8 0, .int .u8 0, .int .u8 0, .int .u8 0, .int .u8 0, .int .u8 0, .int .u8 0, .int .i64 n] = W2 → Bl 52 W2 (w.heap.size + 1) #[.int .u8 0, .int .u8 0, .int .u8 0, .int .u8 0, .int .u8 0, .int .u8 0, .int .u8 0, .int .u8 0, .int .u8 0, .int .u8 0, .int .u8 0, .int .u8 0, .int .u8 0, .int .u8 0, .int .u8 0, .int .u8 0, .int .i64 n] ∧ Bl 52 W2 w.heap.size #[.int .u8 0, .int .u8 0, .int .u8 0, .int .u8 0, .int .u8 0, .int .u8 0, .int .u8 0, .int .u8 0, .int .u8 0, .int .u8 0, .int .u8 0, .int .u8 0, .int .u8 0, .int .u8 0, .int .u8 0, .int .u8 0, .int .i64 0] ∧ Below w.heap.size w W2) := hid (fun W2 hW2 => by
    rw [← hW2]; exact ⟨k2.row _, (k1.out.below ((Below.refl _ _).alloc (Nat.le_refl _) _)).rowFar (by omega) _, below_setRow (B0.out.alloc (by omega) _) (by omega) _⟩)
  have K2 := hid k2
  clear k2 k1 B0
  go_upto_region 2 with (refine wpList_store_row rfl 52 (.tmp 5) (.tmp 7) rfl (w.heap.size + 1) #[.int .u8 0, .int .u8 0, .int .u8 0, .int .u8 0, .int .u8 0, .int .u8 0, .int .u8 0, .int .u8 0, .int .u8 0, .int .u8 0, .int .u8 0, .int .u8 0, .int .u8 0, .int .u8 0, .int .u8 0, .int .u8 0, .int .i64 n] rfl rfl 52 #[.int .u8 0, .int .u8 0, .int .u8 0, .int .u8 0, .int .u8 0, .int .u8 0, .int .u8 0, .int .u8 0, .int .u8 0, .int .u8 0, .int .u8 0, .int .u8 0, .int .u8 0, .int .u8 0, .int .u8 0, .int .u8 0, .int .i64 0] K2.out hinf rfl (by simp [Value.oneCell']) ?_)
  generalize hW2 : (W1.alloc (.cells #[.int .u8 0, .int .u8 0, .int .u8 0, .int .u8 0, .int .u8 0, .int .u8 0, .int .u8 0, .int .u8 0, .int .u8 0, .int .u8 0, .int .u8 0, .int .u8 0, .int .u8 0, .int .u8 0, .int .u8 0, .int .u8 0, .int .i64 0] 52)).setRow (w.heap.size + 1) #[.int .u8 0, .int .u8 0, .int .u8 0, .int .u8 0, .int .u8 0, .int .u8 0, .int .u8 0, .int .u8 0, .int .u8 0, .int .u8 0, .int .u8 0, .int .u8 0, .int .u8 0, .int .u8 0, .int .u8 0, .int .u8 0, .int .i64 n] = W2 at *
  obtain ⟨k2, k1, B0'⟩ := K1.out W2 rfl
  have K3 := hid k2
  have K4 := hid k1
  have B0 := hid B0'
  clear K1 K2 k2 k1 B0' hs hW2
  go_upto_region 3 with (refine wpList_copy_splice rfl (.tmp 9) (.tmp 10) 34 34 rfl 5 Try.underlying34 hsz _ _ _ _ _ _ rfl rfl (w.heap.size + 1) 0 [.int .u8 0, .int .u8 0, .int .u8 0, .int .u8 0, .int .u8 0, .int .u8 0, .int .u8 0, .int .u8 0, .int .u8 0, .int .u8 0, .int .u8 0, .int .u8 0, .int .u8 0, .int .u8 0, .int .u8 0, .int .u8 0, .int .i64 n] 52 K3.out X hXm.out (fun q => by obtain ⟨ad, e, hq⟩ := hsrc.out q; exact ⟨rfl, ad, e, hq _ B0.out⟩) hXf.out hX1.out (w.heap.size + 1) W2 (Below.refl _ _) (Nat.le_refl _) ?_)
  intro w3 HG3 hB3
  have K5 : Hid (Bl 52 w3 (w.heap.size + 1) #[.int .u8 (byt (padN A) 0), .int .u8 (byt (padN A) 1), .int .u8 (byt (padN A) 2), .int .u8 (byt (padN A) 3), .int .u8 (byt (padN A) 4), .int .u8 (byt (padN A) 5), .int .u8 (byt (padN A) 6), .int .u8 (byt (padN A) 7), .int .u8 (byt (padN A) 8), .int .u8 (byt (padN A) 9), .int .u8 (byt (padN A) 10), .int .u8 (byt (padN A) 11), .int .u8 (byt (padN A) 12), .int .u8 (byt (padN A) 13), .int .u8 (byt (padN A) 14), .int .u8 (byt (padN A) 15), .int .i64 n]) := hid (by
    have := HG3.out
    rw [HS.out] at this
    exact this)
  have K6 : Hid (Bl 52 w3 w.heap.size #[.int .u8 0, .int .u8 0, .int .u8 0, .int .u8 0, .int .u8 0, .int .u8 0, .int .u8 0, .int .u8 0, .int .u8 0, .int .u8 0, .int .u8 0, .int .u8 0, .int .u8 0, .int .u8 0, .int .u8 0, .int .u8 0, .int .i64 0]) := hid (K4.out.under (Nat.lt_succ_self _) hB3)
  have B3 : Hid (Below w.heap.size w w3) := hid (B0.out.trans (hB3.mono (Nat.le_succ _)))
  have HLD : Hid (w3.rangeAt (w.heap.size + 1) 0 [.int .u8 (byt (padN A) 0), .int .u8 (byt (padN A) 1), .int .u8 (byt (padN A) 2), .int .u8 (byt (padN A) 3), .int .u8 (byt (padN A) 4), .int .u8 (byt (padN A) 5), .int .u8 (byt (padN A) 6), .int .u8 (byt (padN A) 7), .int .u8 (byt (padN A) 8), .int .u8 (byt (padN A) 9), .int .u8 (byt (padN A) 10), .int .u8 (byt (padN A) 11), .int .u8 (byt (padN A) 12), .int .u8 (byt (padN A) 13), .int .u8 (byt (padN A) 14), .int .u8 (byt (padN A) 15), .int .i64 n]) := hid (fun j v hj => by rw [Nat.zero_add]; exact K5.out.cell (by simpa using hj))
  clear HG3 hB3 K3 K4 B0 hsrc hXf hXm hX1 hXl HS hi hz0 hz1 hz2 hsz i0 hbs
  go_wp2_with (first
    | (refine wpList_load_mid rfl 52 (.tmp 5) rfl (w.heap.size + 1) 0 rfl [.int .u8 (byt (padN A) 0), .int .u8 (byt (padN A) 1), .int .u8 (byt (padN A) 2), .int .u8 (byt (padN A) 3), .int .u8 (byt (padN A) 4), .int .u8 (byt (padN A) 5), .int .u8 (byt (padN A) 6), .int .u8 (byt (padN A) 7), .int .u8 (byt (padN A) 8), .int .u8 (byt (padN A) 9), .int .u8 (byt (padN A) 10), .int .u8 (byt (padN A) 11), .int .u8 (byt (padN A) 12), .int .u8 (byt (padN A) 13), .int .u8 (byt (padN A) 14), .int .u8 (byt (padN A) 15), .int .i64 n] _ HLD.out Try.underlying52 rfl hinf ?_)
    | (refine wpList_store_row rfl 52 (.tmp 4) (.tmp 12) rfl w.heap.size #[.int .u8 (byt (padN A) 0), .int .u8 (byt (padN A) 1), .int .u8 (byt (padN A) 2), .int .u8 (byt (padN A) 3), .int .u8 (byt (padN A) 4), .int .u8 (byt (padN A) 5), .int .u8 (byt (padN A) 6), .int .u8 (byt (padN A) 7), .int .u8 (byt (padN A) 8), .int .u8 (byt (padN A) 9), .int .u8 (byt (padN A) 10), .int .u8 (byt (padN A) 11), .int .u8 (byt (padN A) 12), .int .u8 (byt (padN A) 13), .int .u8 (byt (padN A) 14), .int .u8 (byt (padN A) 15), .int .i64 n] rfl rfl 52 #[.int .u8 0, .int .u8 0, .int .u8 0, .int .u8 0, .int .u8 0, .int .u8 0, .int .u8 0, .int .u8 0, .int .u8 0, .int .u8 0, .int .u8 0, .int .u8 0, .int .u8 0, .int .u8 0, .int .u8 0, .int .u8 0, .int .i64 0] K6.out hinf rfl (by simp [Value.oneCell']) ?_))
  refine bodyPost_ret (results_begin _ _ w.heap.size _ _ _ _ _ _ _ _ _ _ _ _ _ _ _ _ _ rfl (K6.out.row _)) rfl ?_
  exact ⟨rfl, below_setRow B3.out (Nat.le_refl _) _⟩

end Go.Proofs.Ytoakpkpdipgfoaa
