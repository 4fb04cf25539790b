/-
  The walk of head.Read: the header of the first four bytes; an error where there are fewer.
-/
import Derived.Test.YtbbgabdiikdjpaaDoorHeadWrite
namespace Go.Proofs.YtbbgabdiikdjpaaDoor
open Go.RowKit Go.Deep

theorem or_high (x t : Int) (h0 : 0 ≤ x) (h1 : x ≤ 255) (h2 : 0 ≤ t) (h3 : t ≤ 255) : bits .or .i64 (x * 256) t = x * 256 + t :=
  bits_join .i64 62 (by decide) wrap_i64 8 (x * 256) t (by omega) (by omega) (by omega) h2 (by omega) (by omega)

theorem and_four (x : Int) (h0 : 0 ≤ x) (h1 : x ≤ 65535) : bits .and .i64 x 15 = x % 16 :=
  bits_mask .i64 62 (by decide) wrap_i64 4 (by decide) x h0 (by omega)

theorem and_one (x : Int) (h0 : 0 ≤ x) (h1 : x ≤ 65535) : bits .and .i64 x 1 = x % 2 :=
  bits_mask .i64 62 (by decide) wrap_i64 1 (by decide) x h0 (by omega)

/-- The header of two numbers of two bytes. -/
def hdOf (i t : Int) : Value := .agg #[.int .i64 i, .bool (t / 32768 % 2 == 1), .int .i64 (t / 2048 % 16), .bool (t / 1024 % 2 == 1), .bool (t / 512 % 2 == 1), .bool (t / 256 % 2 == 1), .bool (t / 128 % 2 == 1), .bool (t / 64 % 2 == 1), .bool (t / 32 % 2 == 1), .bool (t / 16 % 2 == 1), .int .i64 (t % 16)]

/-- A block holds the fields of a header. -/
def Blk (w : World) (b : Nat) (C : Array Value) : Prop := w.heap[b]? = some (.cells C 24)

theorem Blk.lt {w : World} {b : Nat} {C : Array Value} (h : Blk w b C) : b < w.heap.size := by
  rcases Nat.lt_or_ge b w.heap.size with q | q
  · exact q
  · unfold Blk at h; rw [Array.getElem?_eq_none q] at h; cases h

theorem Blk.cell {w : World} {b : Nat} {C : Array Value} (h : Blk w b C) {i : Nat} {v : Value} (hv : C[i]? = some v) : w.cell? ⟨b, i, none⟩ = some v := by
  unfold Blk at h
  simp [World.cell?, h, hv]

theorem Blk.frozen {w : World} {b : Nat} {C : Array Value} (h : Blk w b C) (i : Nat) : w.frozen? ⟨b, i, none⟩ = false := by
  unfold Blk at h
  simp [World.frozen?, h]

theorem Blk.set {w : World} {b : Nat} {C : Array Value} (h : Blk w b C) (j : Nat) (v : Value) : Blk (w.setCell ⟨b, j, none⟩ v) b (C.setIfInBounds j v) := by
  unfold Blk at h ⊢
  simp [World.setCell, Array.getElem?_modify, h]

theorem Blk.far {w : World} {b : Nat} {C : Array Value} (h : Blk w b C) {p : Addr} (hp : ¬ b = p.block) (v : Value) : Blk (w.setCell p v) b C := by
  unfold Blk at h ⊢
  rw [Below.heap_setCell _ _ _ _ hp, h]

theorem Blk.below {w w' : World} {b : Nat} {C : Array Value} (h : Blk w b C) (k : Below w.heap.size w w') : Blk w' b C := by
  have := h.lt
  unfold Blk at h ⊢
  rw [k.block b this, h]

theorem Blk.new (w : World) (C : Array Value) : Blk (w.alloc (.cells C 24)) w.heap.size C := heap_alloc_new w _

theorem Blk.drew {w : World} {b : Nat} {C : Array Value} (h : Blk w b C) : Blk w.drew b C := h

theorem Blk.drewN {w : World} {b : Nat} {C : Array Value} (h : Blk w b C) (n : Nat) : Blk (w.drewN n) b C := h

/-- The fields of a header that is read, with its flags up to a place. -/
def hdK (n i t : Int) : Array Value := #[.int .i64 i, .bool (decide (15 < n) && (t / 32768 % 2 == 1)), .int .i64 (t / 2048 % 16), .bool (decide (10 < n) && (t / 1024 % 2 == 1)), .bool (decide (9 < n) && (t / 512 % 2 == 1)), .bool (decide (8 < n) && (t / 256 % 2 == 1)), .bool (decide (7 < n) && (t / 128 % 2 == 1)), .bool (decide (6 < n) && (t / 64 % 2 == 1)), .bool (decide (5 < n) && (t / 32 % 2 == 1)), .bool (decide (4 < n) && (t / 16 % 2 == 1)), .int .i64 (t % 16)]

theorem hdK_0 (i t : Int) : hdK 1 i t = hdK 0 i t := by
  simp [hdK]

theorem hdK_1 (i t : Int) : hdK 2 i t = hdK 1 i t := by
  simp [hdK]

theorem hdK_2 (i t : Int) : hdK 3 i t = hdK 2 i t := by
  simp [hdK]

theorem hdK_3 (i t : Int) : hdK 4 i t = hdK 3 i t := by
  simp [hdK]

theorem hdK_4 (i t : Int) : hdK 5 i t = (hdK 4 i t).setIfInBounds 9 (.bool (t / 16 % 2 == 1)) := by
  simp [hdK]

theorem hdK_5 (i t : Int) : hdK 6 i t = (hdK 5 i t).setIfInBounds 8 (.bool (t / 32 % 2 == 1)) := by
  simp [hdK]

theorem hdK_6 (i t : Int) : hdK 7 i t = (hdK 6 i t).setIfInBounds 7 (.bool (t / 64 % 2 == 1)) := by
  simp [hdK]

theorem hdK_7 (i t : Int) : hdK 8 i t = (hdK 7 i t).setIfInBounds 6 (.bool (t / 128 % 2 == 1)) := by
  simp [hdK]

theorem hdK_8 (i t : Int) : hdK 9 i t = (hdK 8 i t).setIfInBounds 5 (.bool (t / 256 % 2 == 1)) := by
  simp [hdK]

theorem hdK_9 (i t : Int) : hdK 10 i t = (hdK 9 i t).setIfInBounds 4 (.bool (t / 512 % 2 == 1)) := by
  simp [hdK]

theorem hdK_10 (i t : Int) : hdK 11 i t = (hdK 10 i t).setIfInBounds 3 (.bool (t / 1024 % 2 == 1)) := by
  simp [hdK]

theorem hdK_11 (i t : Int) : hdK 12 i t = hdK 11 i t := by
  simp [hdK]

theorem hdK_12 (i t : Int) : hdK 13 i t = hdK 12 i t := by
  simp [hdK]

theorem hdK_13 (i t : Int) : hdK 14 i t = hdK 13 i t := by
  simp [hdK]

theorem hdK_14 (i t : Int) : hdK 15 i t = hdK 14 i t := by
  simp [hdK]

theorem hdK_15 (i t : Int) : hdK 16 i t = (hdK 15 i t).setIfInBounds 1 (.bool (t / 32768 % 2 == 1)) := by
  simp [hdK]

def hd0 : Array Value := #[.int .i64 0, .bool false, .int .i64 0, .bool false, .bool false, .bool false, .bool false, .bool false, .bool false, .bool false, .int .i64 0]

set_option maxHeartbeats 400000 in
set_option maxRecDepth 100000 in
theorem hread_short (x : Option Addr) (c l : Nat) (w : World) (h : l < 4) :
    Calls Tryd.prog 25 #[.slice x l c] w fun e w' => e = .returned (.tuple #[.agg #[.int .i64 0, .bool false, .int .i64 0, .bool false, .bool false, .bool false, .bool false, .bool false, .bool false, .bool false, .int .i64 0], .iface 29 (.int .i64 2)]) ∧ Below w.heap.size w w' := by
  have h' : (l : Int) < 4 := by omega
  go_enter Tryd.func25, Tryd.ntmps25
  go_wp2
  refine bodyPost_ret (v := .tuple #[.agg #[.int .i64 0, .bool false, .int .i64 0, .bool false, .bool false, .bool false, .bool false, .bool false, .bool false, .bool false, .int .i64 0], .iface 29 (.int .i64 2)]) (by simp [results, Tryd.results25, go_sem]) rfl ?_
  exact ⟨rfl, (Below.refl _ w).alloc (Nat.le_refl _) _⟩

set_option maxHeartbeats 2000000 in
set_option maxRecDepth 100000 in
theorem hread_good (x : Option Addr) (c : Nat) (ms : List Int) (w : World) (h : Bys w x c ms) (hl : 4 ≤ ms.length) :
    Calls Tryd.prog 25 #[.slice x ms.length c] w fun e w' => e = .returned (.tuple #[hdOf (ms.getD 0 0 * 256 + ms.getD 1 0) (ms.getD 2 0 * 256 + ms.getD 3 0), .nilIface]) ∧ Below w.heap.size w w' := by
  have hl' : ms.length ≤ 200000000000000 := h.2.1
  obtain ⟨g0, g1⟩ := getD_byte h.2.2.1 0
  obtain ⟨g2, g3⟩ := getD_byte h.2.2.1 1
  obtain ⟨g4, g5⟩ := getD_byte h.2.2.1 2
  obtain ⟨g6, g7⟩ := getD_byte h.2.2.1 3
  have hn : ¬ (ms.length : Int) < 4 := by omega
  have hcap : ms.length ≤ c := h.1
  have hbs := h.2.2.1
  obtain ⟨b, off, rfl, hlt, q⟩ : ∃ b off, x = some ⟨b, off, none⟩ ∧ b < w.heap.size ∧ ∀ i, i < ms.length → w.cell? ⟨b, off + i, none⟩ = some (.int .u8 (ms.getD i 0)) := by
    rcases h.2.2.2 with hd | hd
    · rw [hd] at hl; simp at hl
    · exact hd
  have P1 := hid (bys_sub hlt hcap hl' hbs q 0 2 (by omega))
  have P2 := hid (bys_sub hlt hcap hl' hbs q 2 2 (by omega))
  rw [Nat.add_zero, Nat.sub_zero] at P1
  have L1 := hid (Nm.cut_length (ms := ms) (a := 0) (k := 2) (by omega))
  have L2 := hid (Nm.cut_length (ms := ms) (a := 2) (k := 2) (by omega))
  have N1 := hid (num_cut2 (ms := ms) (i := 0) (by omega))
  have N2 := hid (num_cut2 (ms := ms) (i := 2) (by omega))
  rw [Nat.zero_add] at N1
  clear q h hbs
  generalize ms.getD 0 0 = b0 at *
  generalize ms.getD 1 0 = b1 at *
  generalize ms.getD 2 0 = b2 at *
  have e3 : ms.getD (2 + 1) 0 = ms.getD 3 0 := rfl
  rw [e3] at N2
  clear e3
  generalize ms.getD 3 0 = b3 at *
  generalize Nm.cut ms 0 2 = l1 at *
  generalize Nm.cut ms 2 2 = l2 at *
  obtain ⟨t, ht⟩ : ∃ t, b2 * 256 + b3 = t := ⟨_, rfl⟩
  rw [ht] at N2
  rw [ht]
  have t0 : 0 ≤ t := by omega
  have t1 : t ≤ 65535 := by omega
  clear ht
  have a1 := and_four t t0 t1
  have a2 := and_four (t / 2048) (by omega) (by omega)
  have c2 : ¬ c = 2 := by omega
  have c3 : (4 : Int) ≤ (c : Int) := by omega
  have c4 : (2 : Int) ≤ (c : Int) := by omega
  go_enter Tryd.func25, Tryd.ntmps25
  go_wp2_with fail
  have BR0 := Blk.new w hd0
  have BW0 := (Below.refl w.heap.size w).alloc (Nat.le_refl _) (.cells hd0 24)
  have hs0 : w.heap.size < (w.alloc (.cells hd0 24)).heap.size := BR0.lt
  unfold hd0 at BR0 BW0 hs0
  generalize (w.alloc (.cells #[.int .i64 0, .bool false, .int .i64 0, .bool false, .bool false, .bool false, .bool false, .bool false, .bool false, .bool false, .int .i64 0] 24)) = W at *
  have BR := hid BR0
  have BW := hid BW0
  clear BR0 BW0
  refine (number_at t l2 _ (P2.out.below BW.out) L2.out (by have := L2.out; omega) N2.out).mono ?_
  rintro e _ ⟨rfl, rfl⟩
  go_wp2_with fail
  refine (number_at (b0 * 256 + b1) l1 _ (P1.out.below BW.out) L1.out (by have := L1.out; omega) N1.out).mono ?_
  rintro e _ ⟨rfl, rfl⟩
  go_wp2_with fail
  refine (flags_any W.heap.size _).mono ?_
  rintro e w1 ⟨rfl, d1⟩
  have BH : Blk w1 W.heap.size (hdK 0 (b0 * 256 + b1) t) := Blk.below (Blk.new W _) d1
  have BR1 : Blk w1 w.heap.size hd0 := (BR.out.below ((Below.refl _ W).alloc (Nat.le_refl _) _)).below d1
  have BB : Below w.heap.size w w1 := grown_on (grown_on BW.out ((Below.refl _ W).alloc (Nat.le_refl _) _)) d1
  clear d1 BR BW a1 a2 P1 P2 L1 L2 N1 N2
  have BH1 := hid BH
  have BR2 := hid BR1
  have BB1 := hid BB
  clear BH BR1 BB
  have i0 : ∀ u : World, (Instr.index 116 (flagsV W.heap.size) (.int .i64 0)).run Tryd.prog u = .ok (.pointer none) u := fun _ => by kernel_rfl
  have i1 : ∀ u : World, (Instr.index 116 (flagsV W.heap.size) (.int .i64 1)).run Tryd.prog u = .ok (.pointer none) u := fun _ => by kernel_rfl
  have i2 : ∀ u : World, (Instr.index 116 (flagsV W.heap.size) (.int .i64 2)).run Tryd.prog u = .ok (.pointer none) u := fun _ => by kernel_rfl
  have i3 : ∀ u : World, (Instr.index 116 (flagsV W.heap.size) (.int .i64 3)).run Tryd.prog u = .ok (.pointer none) u := fun _ => by kernel_rfl
  have i4 : ∀ u : World, (Instr.index 116 (flagsV W.heap.size) (.int .i64 4)).run Tryd.prog u = .ok (.pointer (some ⟨W.heap.size, 9, none⟩)) u := fun _ => by kernel_rfl
  have i5 : ∀ u : World, (Instr.index 116 (flagsV W.heap.size) (.int .i64 5)).run Tryd.prog u = .ok (.pointer (some ⟨W.heap.size, 8, none⟩)) u := fun _ => by kernel_rfl
  have i6 : ∀ u : World, (Instr.index 116 (flagsV W.heap.size) (.int .i64 6)).run Tryd.prog u = .ok (.pointer (some ⟨W.heap.size, 7, none⟩)) u := fun _ => by kernel_rfl
  have i7 : ∀ u : World, (Instr.index 116 (flagsV W.heap.size) (.int .i64 7)).run Tryd.prog u = .ok (.pointer (some ⟨W.heap.size, 6, none⟩)) u := fun _ => by kernel_rfl
  have i8 : ∀ u : World, (Instr.index 116 (flagsV W.heap.size) (.int .i64 8)).run Tryd.prog u = .ok (.pointer (some ⟨W.heap.size, 5, none⟩)) u := fun _ => by kernel_rfl
  have i9 : ∀ u : World, (Instr.index 116 (flagsV W.heap.size) (.int .i64 9)).run Tryd.prog u = .ok (.pointer (some ⟨W.heap.size, 4, none⟩)) u := fun _ => by kernel_rfl
  have i10 : ∀ u : World, (Instr.index 116 (flagsV W.heap.size) (.int .i64 10)).run Tryd.prog u = .ok (.pointer (some ⟨W.heap.size, 3, none⟩)) u := fun _ => by kernel_rfl
  have i11 : ∀ u : World, (Instr.index 116 (flagsV W.heap.size) (.int .i64 11)).run Tryd.prog u = .ok (.pointer none) u := fun _ => by kernel_rfl
  have i12 : ∀ u : World, (Instr.index 116 (flagsV W.heap.size) (.int .i64 12)).run Tryd.prog u = .ok (.pointer none) u := fun _ => by kernel_rfl
  have i13 : ∀ u : World, (Instr.index 116 (flagsV W.heap.size) (.int .i64 13)).run Tryd.prog u = .ok (.pointer none) u := fun _ => by kernel_rfl
  have i14 : ∀ u : World, (Instr.index 116 (flagsV W.heap.size) (.int .i64 14)).run Tryd.prog u = .ok (.pointer none) u := fun _ => by kernel_rfl
  have i15 : ∀ u : World, (Instr.index 116 (flagsV W.heap.size) (.int .i64 15)).run Tryd.prog u = .ok (.pointer (some ⟨W.heap.size, 1, none⟩)) u := fun _ => by kernel_rfl
  go_wp2_with fail
  go_loopw [26] (fun i wr => ∃ n : Int, 0 ≤ n ∧ n ≤ 16 ∧ i = .int .i64 n ∧ Blk wr W.heap.size (hdK n (b0 * 256 + b1) t) ∧ Blk wr w.heap.size hd0 ∧ Below w.heap.size w wr) (fun i _ => 16 - (intOf i).toNat)
  case atStart => exact ⟨0, by omega, by omega, rfl, BH1.out, BR2.out, BB1.out⟩
  case round =>
    obtain ⟨n, hn0, hn1, rfl, hH, hR, hB⟩ := hrel
    clear BH1 BR2 BB1
    have hcs : n = 0 ∨ n = 1 ∨ n = 2 ∨ n = 3 ∨ n = 4 ∨ n = 5 ∨ n = 6 ∨ n = 7 ∨ n = 8 ∨ n = 9 ∨ n = 10 ∨ n = 11 ∨ n = 12 ∨ n = 13 ∨ n = 14 ∨ n = 15 ∨ n = 16 := by omega
    clear hn0 hn1
    have hHl := hH.lt
    have RR := hid hR
    have BB := hid hB
    clear hR hB
    rcases hcs with rfl | rfl | rfl | rfl | rfl | rfl | rfl | rfl | rfl | rfl | rfl | rfl | rfl | rfl | rfl | rfl | rfl
    · have HH := hid hH
      clear hH
      go_wp2
      exact ⟨⟨1, by omega, by omega, rfl, by rw [hdK_0]; exact HH.out, RR.out, BB.out⟩, by simp [intOf]⟩
    · have HH := hid hH
      clear hH
      go_wp2
      exact ⟨⟨2, by omega, by omega, rfl, by rw [hdK_1]; exact HH.out, RR.out, BB.out⟩, by simp [intOf]⟩
    · have HH := hid hH
      clear hH
      go_wp2
      exact ⟨⟨3, by omega, by omega, rfl, by rw [hdK_2]; exact HH.out, RR.out, BB.out⟩, by simp [intOf]⟩
    · have HH := hid hH
      clear hH
      go_wp2
      exact ⟨⟨4, by omega, by omega, rfl, by rw [hdK_3]; exact HH.out, RR.out, BB.out⟩, by simp [intOf]⟩
    · have ha := and_one (t / 16) (by omega) (by omega)
      have c0 := hH.cell (i := 9) rfl
      have z0 := hH.frozen 9
      have HH := hid hH
      clear hH
      go_wp2
      exact ⟨⟨5, by omega, by omega, rfl, by rw [hdK_4]; exact HH.out.set _ _, RR.out.far (by simp; omega) _, BB.out.setCell (by simp; omega) _⟩, by simp [intOf]⟩
    · have ha := and_one (t / 32) (by omega) (by omega)
      have c0 := hH.cell (i := 8) rfl
      have z0 := hH.frozen 8
      have HH := hid hH
      clear hH
      go_wp2
      exact ⟨⟨6, by omega, by omega, rfl, by rw [hdK_5]; exact HH.out.set _ _, RR.out.far (by simp; omega) _, BB.out.setCell (by simp; omega) _⟩, by simp [intOf]⟩
    · have ha := and_one (t / 64) (by omega) (by omega)
      have c0 := hH.cell (i := 7) rfl
      have z0 := hH.frozen 7
      have HH := hid hH
      clear hH
      go_wp2
      exact ⟨⟨7, by omega, by omega, rfl, by rw [hdK_6]; exact HH.out.set _ _, RR.out.far (by simp; omega) _, BB.out.setCell (by simp; omega) _⟩, by simp [intOf]⟩
    · have ha := and_one (t / 128) (by omega) (by omega)
      have c0 := hH.cell (i := 6) rfl
      have z0 := hH.frozen 6
      have HH := hid hH
      clear hH
      go_wp2
      exact ⟨⟨8, by omega, by omega, rfl, by rw [hdK_7]; exact HH.out.set _ _, RR.out.far (by simp; omega) _, BB.out.setCell (by simp; omega) _⟩, by simp [intOf]⟩
    · have ha := and_one (t / 256) (by omega) (by omega)
      have c0 := hH.cell (i := 5) rfl
      have z0 := hH.frozen 5
      have HH := hid hH
      clear hH
      go_wp2
      exact ⟨⟨9, by omega, by omega, rfl, by rw [hdK_8]; exact HH.out.set _ _, RR.out.far (by simp; omega) _, BB.out.setCell (by simp; omega) _⟩, by simp [intOf]⟩
    · have ha := and_one (t / 512) (by omega) (by omega)
      have c0 := hH.cell (i := 4) rfl
      have z0 := hH.frozen 4
      have HH := hid hH
      clear hH
      go_wp2
      exact ⟨⟨10, by omega, by omega, rfl, by rw [hdK_9]; exact HH.out.set _ _, RR.out.far (by simp; omega) _, BB.out.setCell (by simp; omega) _⟩, by simp [intOf]⟩
    · have ha := and_one (t / 1024) (by omega) (by omega)
      have c0 := hH.cell (i := 3) rfl
      have z0 := hH.frozen 3
      have HH := hid hH
      clear hH
      go_wp2
      exact ⟨⟨11, by omega, by omega, rfl, by rw [hdK_10]; exact HH.out.set _ _, RR.out.far (by simp; omega) _, BB.out.setCell (by simp; omega) _⟩, by simp [intOf]⟩
    · have HH := hid hH
      clear hH
      go_wp2
      exact ⟨⟨12, by omega, by omega, rfl, by rw [hdK_11]; exact HH.out, RR.out, BB.out⟩, by simp [intOf]⟩
    · have HH := hid hH
      clear hH
      go_wp2
      exact ⟨⟨13, by omega, by omega, rfl, by rw [hdK_12]; exact HH.out, RR.out, BB.out⟩, by simp [intOf]⟩
    · have HH := hid hH
      clear hH
      go_wp2
      exact ⟨⟨14, by omega, by omega, rfl, by rw [hdK_13]; exact HH.out, RR.out, BB.out⟩, by simp [intOf]⟩
    · have HH := hid hH
      clear hH
      go_wp2
      exact ⟨⟨15, by omega, by omega, rfl, by rw [hdK_14]; exact HH.out, RR.out, BB.out⟩, by simp [intOf]⟩
    · have ha := and_one (t / 32768) (by omega) (by omega)
      have c0 := hH.cell (i := 1) rfl
      have z0 := hH.frozen 1
      have HH := hid hH
      clear hH
      go_wp2
      exact ⟨⟨16, by omega, by omega, rfl, by rw [hdK_15]; exact HH.out.set _ _, RR.out.far (by simp; omega) _, BB.out.setCell (by simp; omega) _⟩, by simp [intOf]⟩
    · have hw : w.heap.size < wr.heap.size := by omega
      have c0 := hH.cell (i := 0) (v := .int .i64 (b0 * 256 + b1)) (by simp [hdK])
      have r0 := RR.out.cell (i := 0) (v := .int .i64 0) (by simp [hd0])
      have s0 := RR.out.frozen 0
      have c1 := hH.cell (i := 1) (v := .bool (t / 32768 % 2 == 1)) (by simp [hdK])
      have r1 := RR.out.cell (i := 1) (v := .bool false) (by simp [hd0])
      have s1 := RR.out.frozen 1
      have c2 := hH.cell (i := 2) (v := .int .i64 (t / 2048 % 16)) (by simp [hdK])
      have r2 := RR.out.cell (i := 2) (v := .int .i64 0) (by simp [hd0])
      have s2 := RR.out.frozen 2
      have c3 := hH.cell (i := 3) (v := .bool (t / 1024 % 2 == 1)) (by simp [hdK])
      have r3 := RR.out.cell (i := 3) (v := .bool false) (by simp [hd0])
      have s3 := RR.out.frozen 3
      have c4 := hH.cell (i := 4) (v := .bool (t / 512 % 2 == 1)) (by simp [hdK])
      have r4 := RR.out.cell (i := 4) (v := .bool false) (by simp [hd0])
      have s4 := RR.out.frozen 4
      have c5 := hH.cell (i := 5) (v := .bool (t / 256 % 2 == 1)) (by simp [hdK])
      have r5 := RR.out.cell (i := 5) (v := .bool false) (by simp [hd0])
      have s5 := RR.out.frozen 5
      have c6 := hH.cell (i := 6) (v := .bool (t / 128 % 2 == 1)) (by simp [hdK])
      have r6 := RR.out.cell (i := 6) (v := .bool false) (by simp [hd0])
      have s6 := RR.out.frozen 6
      have c7 := hH.cell (i := 7) (v := .bool (t / 64 % 2 == 1)) (by simp [hdK])
      have r7 := RR.out.cell (i := 7) (v := .bool false) (by simp [hd0])
      have s7 := RR.out.frozen 7
      have c8 := hH.cell (i := 8) (v := .bool (t / 32 % 2 == 1)) (by simp [hdK])
      have r8 := RR.out.cell (i := 8) (v := .bool false) (by simp [hd0])
      have s8 := RR.out.frozen 8
      have c9 := hH.cell (i := 9) (v := .bool (t / 16 % 2 == 1)) (by simp [hdK])
      have r9 := RR.out.cell (i := 9) (v := .bool false) (by simp [hd0])
      have s9 := RR.out.frozen 9
      have c10 := hH.cell (i := 10) (v := .int .i64 (t % 16)) (by simp [hdK])
      have r10 := RR.out.cell (i := 10) (v := .int .i64 0) (by simp [hd0])
      have s10 := RR.out.frozen 10
      go_wp2
      have E : Blk (((((((((((wr.setCell ⟨w.heap.size, 0, none⟩ (.int .i64 (b0 * 256 + b1))).setCell ⟨w.heap.size, 1, none⟩ (.bool (t / 32768 % 2 == 1))).setCell ⟨w.heap.size, 2, none⟩ (.int .i64 (t / 2048 % 16))).setCell ⟨w.heap.size, 3, none⟩ (.bool (t / 1024 % 2 == 1))).setCell ⟨w.heap.size, 4, none⟩ (.bool (t / 512 % 2 == 1))).setCell ⟨w.heap.size, 5, none⟩ (.bool (t / 256 % 2 == 1))).setCell ⟨w.heap.size, 6, none⟩ (.bool (t / 128 % 2 == 1))).setCell ⟨w.heap.size, 7, none⟩ (.bool (t / 64 % 2 == 1))).setCell ⟨w.heap.size, 8, none⟩ (.bool (t / 32 % 2 == 1))).setCell ⟨w.heap.size, 9, none⟩ (.bool (t / 16 % 2 == 1))).setCell ⟨w.heap.size, 10, none⟩ (.int .i64 (t % 16))) w.heap.size #[.int .i64 (b0 * 256 + b1), .bool (t / 32768 % 2 == 1), .int .i64 (t / 2048 % 16), .bool (t / 1024 % 2 == 1), .bool (t / 512 % 2 == 1), .bool (t / 256 % 2 == 1), .bool (t / 128 % 2 == 1), .bool (t / 64 % 2 == 1), .bool (t / 32 % 2 == 1), .bool (t / 16 % 2 == 1), .int .i64 (t % 16)] := by
        have := (((((((((((RR.out.set 0 (.int .i64 (b0 * 256 + b1))).set 1 (.bool (t / 32768 % 2 == 1))).set 2 (.int .i64 (t / 2048 % 16))).set 3 (.bool (t / 1024 % 2 == 1))).set 4 (.bool (t / 512 % 2 == 1))).set 5 (.bool (t / 256 % 2 == 1))).set 6 (.bool (t / 128 % 2 == 1))).set 7 (.bool (t / 64 % 2 == 1))).set 8 (.bool (t / 32 % 2 == 1))).set 9 (.bool (t / 16 % 2 == 1))).set 10 (.int .i64 (t % 16)))
        simpa [hd0] using this
      have F : Below w.heap.size w (((((((((((wr.setCell ⟨w.heap.size, 0, none⟩ (.int .i64 (b0 * 256 + b1))).setCell ⟨w.heap.size, 1, none⟩ (.bool (t / 32768 % 2 == 1))).setCell ⟨w.heap.size, 2, none⟩ (.int .i64 (t / 2048 % 16))).setCell ⟨w.heap.size, 3, none⟩ (.bool (t / 1024 % 2 == 1))).setCell ⟨w.heap.size, 4, none⟩ (.bool (t / 512 % 2 == 1))).setCell ⟨w.heap.size, 5, none⟩ (.bool (t / 256 % 2 == 1))).setCell ⟨w.heap.size, 6, none⟩ (.bool (t / 128 % 2 == 1))).setCell ⟨w.heap.size, 7, none⟩ (.bool (t / 64 % 2 == 1))).setCell ⟨w.heap.size, 8, none⟩ (.bool (t / 32 % 2 == 1))).setCell ⟨w.heap.size, 9, none⟩ (.bool (t / 16 % 2 == 1))).setCell ⟨w.heap.size, 10, none⟩ (.int .i64 (t % 16))) := (((((((((((BB.out.setCell (p := ⟨w.heap.size, 0, none⟩) (Nat.le_refl _) (.int .i64 (b0 * 256 + b1))).setCell (p := ⟨w.heap.size, 1, none⟩) (Nat.le_refl _) (.bool (t / 32768 % 2 == 1))).setCell (p := ⟨w.heap.size, 2, none⟩) (Nat.le_refl _) (.int .i64 (t / 2048 % 16))).setCell (p := ⟨w.heap.size, 3, none⟩) (Nat.le_refl _) (.bool (t / 1024 % 2 == 1))).setCell (p := ⟨w.heap.size, 4, none⟩) (Nat.le_refl _) (.bool (t / 512 % 2 == 1))).setCell (p := ⟨w.heap.size, 5, none⟩) (Nat.le_refl _) (.bool (t / 256 % 2 == 1))).setCell (p := ⟨w.heap.size, 6, none⟩) (Nat.le_refl _) (.bool (t / 128 % 2 == 1))).setCell (p := ⟨w.heap.size, 7, none⟩) (Nat.le_refl _) (.bool (t / 64 % 2 == 1))).setCell (p := ⟨w.heap.size, 8, none⟩) (Nat.le_refl _) (.bool (t / 32 % 2 == 1))).setCell (p := ⟨w.heap.size, 9, none⟩) (Nat.le_refl _) (.bool (t / 16 % 2 == 1))).setCell (p := ⟨w.heap.size, 10, none⟩) (Nat.le_refl _) (.int .i64 (t % 16)))
      generalize (((((((((((wr.setCell ⟨w.heap.size, 0, none⟩ (.int .i64 (b0 * 256 + b1))).setCell ⟨w.heap.size, 1, none⟩ (.bool (t / 32768 % 2 == 1))).setCell ⟨w.heap.size, 2, none⟩ (.int .i64 (t / 2048 % 16))).setCell ⟨w.heap.size, 3, none⟩ (.bool (t / 1024 % 2 == 1))).setCell ⟨w.heap.size, 4, none⟩ (.bool (t / 512 % 2 == 1))).setCell ⟨w.heap.size, 5, none⟩ (.bool (t / 256 % 2 == 1))).setCell ⟨w.heap.size, 6, none⟩ (.bool (t / 128 % 2 == 1))).setCell ⟨w.heap.size, 7, none⟩ (.bool (t / 64 % 2 == 1))).setCell ⟨w.heap.size, 8, none⟩ (.bool (t / 32 % 2 == 1))).setCell ⟨w.heap.size, 9, none⟩ (.bool (t / 16 % 2 == 1))).setCell ⟨w.heap.size, 10, none⟩ (.int .i64 (t % 16))) = W2 at *
      have e0 := E.cell (i := 0) rfl
      have e1 := E.cell (i := 1) rfl
      have e2 := E.cell (i := 2) rfl
      have e3 := E.cell (i := 3) rfl
      have e4 := E.cell (i := 4) rfl
      have e5 := E.cell (i := 5) rfl
      have e6 := E.cell (i := 6) rfl
      have e7 := E.cell (i := 7) rfl
      have e8 := E.cell (i := 8) rfl
      have e9 := E.cell (i := 9) rfl
      have e10 := E.cell (i := 10) rfl
      clear c0 r0 s0 c1 r1 s1 c2 r2 s2 c3 r3 s3 c4 r4 s4 c5 r5 s5 c6 r6 s6 c7 r7 s7 c8 r8 s8 c9 r9 s9 c10 r10 s10
      refine bodyPost_ret (v := .tuple #[hdOf (b0 * 256 + b1) t, .nilIface]) (by simp [results, Tryd.results25, go_sem, hdOf, e0, e1, e2, e3, e4, e5, e6, e7, e8, e9, e10]) rfl ?_
      exact ⟨rfl, F⟩

end Go.Proofs.YtbbgabdiikdjpaaDoor
