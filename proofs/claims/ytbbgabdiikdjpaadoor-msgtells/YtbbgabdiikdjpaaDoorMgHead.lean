/-
  A message's header as a structure; its 15 cells in memory; the walks of countOf and records.
-/
import Derived.Test.YtbbgabdiikdjpaaDoorMgParts
import Derived.Test.YtbbgabdiikdjpaaDoorHeadFacts
namespace Go.Proofs.YtbbgabdiikdjpaaDoor
open Go.RowKit Go.Deep

/-- A header. -/
structure Hd where
  id : Int
  an : Bool
  op : Int
  aa : Bool
  tc : Bool
  rd : Bool
  ra : Bool
  z : Bool
  ad : Bool
  cd : Bool
  code : Int

/-- The header of bytes. -/
def hdR (ms : List Int) : Hd :=
  ⟨ms.getD 0 0 * 256 + ms.getD 1 0, (ms.getD 2 0 * 256 + ms.getD 3 0) / 32768 % 2 == 1, (ms.getD 2 0 * 256 + ms.getD 3 0) / 2048 % 16, (ms.getD 2 0 * 256 + ms.getD 3 0) / 1024 % 2 == 1, (ms.getD 2 0 * 256 + ms.getD 3 0) / 512 % 2 == 1, (ms.getD 2 0 * 256 + ms.getD 3 0) / 256 % 2 == 1, (ms.getD 2 0 * 256 + ms.getD 3 0) / 128 % 2 == 1, (ms.getD 2 0 * 256 + ms.getD 3 0) / 64 % 2 == 1, (ms.getD 2 0 * 256 + ms.getD 3 0) / 32 % 2 == 1, (ms.getD 2 0 * 256 + ms.getD 3 0) / 16 % 2 == 1, (ms.getD 2 0 * 256 + ms.getD 3 0) % 16⟩

/-- The bytes of a header. -/
def hdB (h : Hd) : List Int := headN h.id h.an h.op h.aa h.tc h.rd h.ra h.z h.ad h.cd h.code

/-- A header that may be. -/
def HdOk (h : Hd) : Prop := (0 ≤ h.id ∧ h.id ≤ 65535) ∧ (0 ≤ h.op ∧ h.op ≤ 15) ∧ (0 ≤ h.code ∧ h.code ≤ 15)

theorem hdB_len (h : Hd) : (hdB h).length = 4 := rfl

theorem hdB_bytes {h : Hd} (k : HdOk h) : ∀ b ∈ hdB h, 0 ≤ b ∧ b ≤ 255 := headN_bytes k.1.1 k.1.2 k.2.1.1 k.2.1.2 k.2.2.1 k.2.2.2

theorem hdR_of {h : Hd} (k : HdOk h) (more : List Int) : hdR (hdB h ++ more) = h := by
  obtain ⟨_, ⟨o0, o1⟩, c0, c1⟩ := k
  have e0 : (hdB h ++ more).getD 0 0 * 256 + (hdB h ++ more).getD 1 0 = h.id := headN_id h.id h.an h.op h.aa h.tc h.rd h.ra h.z h.ad h.cd h.code
  have e1 : (hdB h ++ more).getD 2 0 * 256 + (hdB h ++ more).getD 3 0 = wordK 16 h.an h.op h.aa h.tc h.rd h.ra h.z h.ad h.cd h.code := headN_word h.id h.an h.op h.aa h.tc h.rd h.ra h.z h.ad h.cd h.code
  have e2 := hd_of (id := h.id) (an := h.an) (aa := h.aa) (tc := h.tc) (rd := h.rd) (ra := h.ra) (z := h.z) (ad := h.ad) (cd := h.cd) o0 o1 c0 c1
  unfold hdR
  rw [e0, e1]
  unfold hdOf at e2
  simp only [Value.agg.injEq, Array.mk.injEq, List.cons.injEq, Value.int.injEq, Value.bool.injEq, true_and, and_true] at e2
  obtain ⟨f1, f2, f3, f4, f5, f6, f7, f8, f9, f10⟩ := e2
  rw [f1, f2, f3, f4, f5, f6, f7, f8, f9, f10]

theorem hdB_of {ms : List Int} (hb : ∀ b ∈ ms, 0 ≤ b ∧ b ≤ 255) (hl : 4 ≤ ms.length) : hdB (hdR ms) = ms.take 4 ∧ HdOk (hdR ms) := by
  obtain ⟨g0, g1⟩ := getD_byte hb 0
  obtain ⟨g2, g3⟩ := getD_byte hb 1
  obtain ⟨g4, g5⟩ := getD_byte hb 2
  obtain ⟨g6, g7⟩ := getD_byte hb 3
  refine ⟨(headN_of _ _ _ _ g2 g3 g4 g5 g6 g7 _ rfl).trans (take_four hl).symm, ?_⟩
  unfold HdOk hdR
  simp only
  omega

theorem hread_hd {x : Option Addr} {c l : Nat} (h : Hd) (ms : List Int) (w : World) (hs : Bys w x c ms) (hl : ms.length = l) (h4 : 4 ≤ ms.length) (hh : hdR ms = h) :
    Calls Tryd.prog 25 #[.slice x l c] w fun e w' => e = .returned (.tuple #[.agg #[.int .i64 h.id, .bool h.an, .int .i64 h.op, .bool h.aa, .bool h.tc, .bool h.rd, .bool h.ra, .bool h.z, .bool h.ad, .bool h.cd, .int .i64 h.code], .nilIface]) ∧ Below w.heap.size w w' := by
  subst hl hh
  exact hread_good x c ms w hs h4

theorem hwrite_hd (h : Hd) (w : World) (k : HdOk h) :
    Calls Tryd.prog 62 #[.agg #[.int .i64 h.id, .bool h.an, .int .i64 h.op, .bool h.aa, .bool h.tc, .bool h.rd, .bool h.ra, .bool h.z, .bool h.ad, .bool h.cd, .int .i64 h.code]] w fun e w' => ∃ x c, e = .returned (.tuple #[.slice x 4 c, .nilIface]) ∧ Rowb w' w.heap.size (.slice x 4 c) (hdB h) ∧ Bys w' x c (hdB h) ∧ Below w.heap.size w w' :=
  hwrite_good h.id h.op h.code h.an h.aa h.tc h.rd h.ra h.z h.ad h.cd w k.1.1 k.1.2 k.2.1.1 k.2.1.2 k.2.2.1 k.2.2.2

theorem hwrite_no (h : Hd) (w : World) (k : ¬ HdOk h) :
    Calls Tryd.prog 62 #[.agg #[.int .i64 h.id, .bool h.an, .int .i64 h.op, .bool h.aa, .bool h.tc, .bool h.rd, .bool h.ra, .bool h.z, .bool h.ad, .bool h.cd, .int .i64 h.code]] w fun e w' => e = .returned (.tuple #[.slice none 0 0, .iface 29 (.int .i64 6)]) ∧ Below w.heap.size w w' :=
  hwrite_bad h.id h.op h.code h.an h.aa h.tc h.rd h.ra h.z h.ad h.cd w k

/-- The cells of a message without anything. -/
def ms0 : Array Value := #[.int .i64 0, .bool false, .int .i64 0, .bool false, .bool false, .bool false, .bool false, .bool false, .bool false, .bool false, .int .i64 0, .slice none 0 0, .slice none 0 0, .slice none 0 0, .slice none 0 0]

set_option maxHeartbeats 1000000 in
set_option maxRecDepth 100000 in
theorem Bl.put15 {t : TypeId} {w : World} {b : Nat} (h : Bl t w b ms0) (v0 v1 v2 v3 v4 v5 v6 v7 v8 v9 v10 v11 v12 v13 v14 : Value) :
    Bl t (((((((((((((((w.setCell ⟨b, 0, none⟩ v0).setCell ⟨b, 1, none⟩ v1).setCell ⟨b, 2, none⟩ v2).setCell ⟨b, 3, none⟩ v3).setCell ⟨b, 4, none⟩ v4).setCell ⟨b, 5, none⟩ v5).setCell ⟨b, 6, none⟩ v6).setCell ⟨b, 7, none⟩ v7).setCell ⟨b, 8, none⟩ v8).setCell ⟨b, 9, none⟩ v9).setCell ⟨b, 10, none⟩ v10).setCell ⟨b, 11, none⟩ v11).setCell ⟨b, 12, none⟩ v12).setCell ⟨b, 13, none⟩ v13).setCell ⟨b, 14, none⟩ v14) b #[v0, v1, v2, v3, v4, v5, v6, v7, v8, v9, v10, v11, v12, v13, v14] := by
  have e := (((((((((((((((h.set 0 v0).set 1 v1).set 2 v2).set 3 v3).set 4 v4).set 5 v5).set 6 v6).set 7 v7).set 8 v8).set 9 v9).set 10 v10).set 11 v11).set 12 v12).set 13 v13).set 14 v14)
  simpa [ms0] using e

theorem below_put15 {B : Nat} {w w' : World} {b : Nat} (k : Below B w w') (hb : B ≤ b) (v0 v1 v2 v3 v4 v5 v6 v7 v8 v9 v10 v11 v12 v13 v14 : Value) :
    Below B w (((((((((((((((w'.setCell ⟨b, 0, none⟩ v0).setCell ⟨b, 1, none⟩ v1).setCell ⟨b, 2, none⟩ v2).setCell ⟨b, 3, none⟩ v3).setCell ⟨b, 4, none⟩ v4).setCell ⟨b, 5, none⟩ v5).setCell ⟨b, 6, none⟩ v6).setCell ⟨b, 7, none⟩ v7).setCell ⟨b, 8, none⟩ v8).setCell ⟨b, 9, none⟩ v9).setCell ⟨b, 10, none⟩ v10).setCell ⟨b, 11, none⟩ v11).setCell ⟨b, 12, none⟩ v12).setCell ⟨b, 13, none⟩ v13).setCell ⟨b, 14, none⟩ v14) :=
  (((((((((((((((k.setCell hb v0).setCell hb v1).setCell hb v2).setCell hb v3).setCell hb v4).setCell hb v5).setCell hb v6).setCell hb v7).setCell hb v8).setCell hb v9).setCell hb v10).setCell hb v11).setCell hb v12).setCell hb v13).setCell hb v14)

set_option maxRecDepth 100000 in
theorem results_mread (tmps : Array Value) (w : World) (b : Nat) (v0 v1 v2 v3 v4 v5 v6 v7 v8 v9 v10 v11 v12 v13 v14 : Value) (hp : tmps.getD 2 undef = .pointer (some ⟨b, 0, none⟩)) (hb : Bl 28 w b #[v0, v1, v2, v3, v4, v5, v6, v7, v8, v9, v10, v11, v12, v13, v14]) :
    (results Tryd.f6 tmps).run Tryd.prog w = .ok (.tuple #[.agg #[v0, v1, v2, v3, v4, v5, v6, v7, v8, v9, v10, v11, v12, v13, v14], tmps.getD 3 undef]) w := by
  have c0 : w.cell? ⟨b, 0, none⟩ = some v0 := hb.cell (i := 0) rfl
  have c1 : w.cell? ⟨b, 1, none⟩ = some v1 := hb.cell (i := 1) rfl
  have c2 : w.cell? ⟨b, 2, none⟩ = some v2 := hb.cell (i := 2) rfl
  have c3 : w.cell? ⟨b, 3, none⟩ = some v3 := hb.cell (i := 3) rfl
  have c4 : w.cell? ⟨b, 4, none⟩ = some v4 := hb.cell (i := 4) rfl
  have c5 : w.cell? ⟨b, 5, none⟩ = some v5 := hb.cell (i := 5) rfl
  have c6 : w.cell? ⟨b, 6, none⟩ = some v6 := hb.cell (i := 6) rfl
  have c7 : w.cell? ⟨b, 7, none⟩ = some v7 := hb.cell (i := 7) rfl
  have c8 : w.cell? ⟨b, 8, none⟩ = some v8 := hb.cell (i := 8) rfl
  have c9 : w.cell? ⟨b, 9, none⟩ = some v9 := hb.cell (i := 9) rfl
  have c10 : w.cell? ⟨b, 10, none⟩ = some v10 := hb.cell (i := 10) rfl
  have c11 : w.cell? ⟨b, 11, none⟩ = some v11 := hb.cell (i := 11) rfl
  have c12 : w.cell? ⟨b, 12, none⟩ = some v12 := hb.cell (i := 12) rfl
  have c13 : w.cell? ⟨b, 13, none⟩ = some v13 := hb.cell (i := 13) rfl
  have c14 : w.cell? ⟨b, 14, none⟩ = some v14 := hb.cell (i := 14) rfl
  have hp' : tmps[2]?.getD undef = .pointer (some ⟨b, 0, none⟩) := by simpa using hp
  simp [results, Tryd.results6, go_sem, hp', c0, c1, c2, c3, c4, c5, c6, c7, c8, c9, c10, c11, c12, c13, c14]

set_option maxHeartbeats 400000 in
set_option maxRecDepth 100000 in
theorem count_at {x : Option Addr} {c l : Nat} (r : Nat) (i : Nat) (ms : List Int) (w : World) (h : Bys w x c ms) (hl : ms.length = l) (hi : i ≤ 3) (h12 : 12 ≤ ms.length) (hr : pairN ms (4 + 2 * i) = r) :
    Calls Tryd.prog 27 #[.slice x l c, .int .i64 (i : Int)] w fun e w' => e = .returned (.int .i64 (r : Int)) ∧ w = w' := by
  subst hl
  have hlen : ms.length ≤ 200000000000000 := h.2.1
  have hcap : ms.length ≤ c := h.1
  have hbs := h.2.2.1
  obtain ⟨bk, off, rfl, hlt, q⟩ : ∃ b off, x = some ⟨b, off, none⟩ ∧ b < w.heap.size ∧ ∀ i, i < ms.length → w.cell? ⟨b, off + i, none⟩ = some (.int .u8 (ms.getD i 0)) := by
    rcases h.2.2.2 with hd | hd
    · rw [hd] at h12; simp at h12
    · exact hd
  obtain ⟨m, hm⟩ : ∃ m, m = 4 + 2 * i := ⟨_, rfl⟩
  rw [← hm] at hr
  have P1 := hid (bys_sub hlt hcap hlen hbs q m 2 (by omega))
  have L1 := hid (Nm.cut_length (ms := ms) (a := m) (k := 2) (by omega))
  have N1 := num_cut2 (ms := ms) (i := m) (by omega)
  have g0 := getD_byte hbs m
  have g1 := getD_byte hbs (m + 1)
  have N2 : Hid (numN (Nm.cut ms m 2) = (r : Int)) := hid (by rw [N1, ← hr]; unfold pairN; omega)
  have i2 : ¬ c = m := by omega
  have i4 : (m : Int) + 2 ≤ (c : Int) := by omega
  have i5 : (4 : Int) + 2 * (i : Int) = (m : Int) := by omega
  clear q N1 g0 g1 hm hr
  generalize Nm.cut ms m 2 = l1 at *
  go_enter Tryd.func27, Tryd.ntmps27
  go_wp2_with fail
  refine (number_at (r : Int) l1 _ P1.out L1.out (by have := L1.out; omega) N2.out).mono ?_
  rintro e _ ⟨rfl, rfl⟩
  go_wp2_with fail
  go_ret
  exact ⟨rfl, rfl⟩

/-- Where the sections of records of the message in a block stand. -/
def secsV (b : Nat) : Value := .agg #[.pointer (some ⟨b, 12, none⟩), .pointer (some ⟨b, 13, none⟩), .pointer (some ⟨b, 14, none⟩)]

set_option maxHeartbeats 1000000 in
set_option maxRecDepth 100000 in
theorem records_any (b : Nat) (w : World) :
    Calls Tryd.prog 29 #[.pointer (some ⟨b, 0, none⟩)] w fun e w' => e = .returned (secsV b) ∧ Below w.heap.size w w' := by
  go_enter Tryd.func29, Tryd.ntmps29
  go_wp2
  go_big_region
  go_wp2
  refine bodyPost_ret (v := secsV b) (by simp [results, Tryd.results29, go_sem, secsV]) rfl ?_
  exact ⟨rfl, ((Below.refl _ w).alloc (Nat.le_refl _) _).drew⟩

theorem Qs.base {w : World} {B B' : Nat} {x : Option Addr} {c : Nat} {qs : List Qn} (h : Qs w B x c qs) (k : B' ≤ B) : Qs w B' x c qs := by
  obtain ⟨h1, h2, h3⟩ := h
  refine ⟨h1, h2, ?_⟩
  rcases h3 with h3 | ⟨b, off, hx, hb, hB, hc⟩
  · exact Or.inl h3
  · refine Or.inr ⟨b, off, hx, hb, by omega, fun i hi => ?_⟩
    obtain ⟨y, s, k1, k2, k3, k4, k5⟩ := hc i hi
    exact ⟨y, s, k1, k2, k3, k4, fun a e => by have := k5 a e; omega⟩

theorem Rs.base {w : World} {B B' : Nat} {x : Option Addr} {c : Nat} {rs : List Rn} (h : Rs w B x c rs) (k : B' ≤ B) : Rs w B' x c rs := by
  obtain ⟨h1, h2, h3⟩ := h
  refine ⟨h1, h2, ?_⟩
  rcases h3 with h3 | ⟨b, off, hx, hb, hB, hc⟩
  · exact Or.inl h3
  · refine Or.inr ⟨b, off, hx, hb, by omega, fun i hi => ?_⟩
    obtain ⟨y, s, z, t, k1, k2, k3, k4, k5, k6, k7, k8, k9, k10⟩ := hc i hi
    exact ⟨y, s, z, t, k1, k2, k3, k4, k5, k6, k7, k8, fun a e => by have := k9 a e; omega, fun a e => by have := k10 a e; omega⟩

end Go.Proofs.YtbbgabdiikdjpaaDoor
