/-
  The walk of msg.Write: the bytes of a message, in new memory, or what is wrong; nothing that was there is written.
-/
import Derived.Test.YtbbgabdiikdjpaaDoorMgBegin
namespace Go.Proofs.YtbbgabdiikdjpaaDoor
open Go.RowKit Go.Deep Go.Maps

theorem firstE_zero {α : Type} {f : α → Int} {xs : List α} (h : ∀ x ∈ xs, f x = 0) : firstE f xs = 0 := by
  induction xs with
  | nil => rfl
  | cons x xs ih =>
    unfold firstE
    rw [if_neg (by simp [h x List.mem_cons_self])]
    exact ih fun y hy => h y (List.mem_cons_of_mem _ hy)

theorem firstE_all {α : Type} {f : α → Int} {xs : List α} (h : firstE f xs = 0) : ∀ x ∈ xs, f x = 0 := by
  induction xs with
  | nil => intro x hx; simp at hx
  | cons x xs ih =>
    unfold firstE at h
    by_cases c : f x = 0
    · rw [if_neg (by simp [c])] at h
      intro y hy
      rcases List.mem_cons.1 hy with q | q
      · rw [q]; exact c
      · exact ih h y q
    · rw [if_pos c] at h; exact absurd h c

theorem firstE_at {α : Type} {f : α → Int} {pre post : List α} {x : α} (h : ∀ y ∈ pre, f y = 0) (hx : ¬ f x = 0) : firstE f (pre ++ x :: post) = f x := by
  induction pre with
  | nil => rw [List.nil_append]; unfold firstE; rw [if_pos hx]
  | cons y ys ih =>
    rw [List.cons_append]
    unfold firstE
    rw [if_neg (by simp [h y List.mem_cons_self])]
    exact ih fun z hz => h z (List.mem_cons_of_mem _ hz)

/-- What is wrong with a header. -/
def hdE (h : Hd) : Int := if (0 ≤ h.id ∧ h.id ≤ 65535) ∧ (0 ≤ h.op ∧ h.op ≤ 15) ∧ (0 ≤ h.code ∧ h.code ≤ 15) then 0 else 6

theorem hdE_ok {h : Hd} (k : HdOk h) : hdE h = 0 := if_pos k
theorem hdE_no {h : Hd} (k : ¬ HdOk h) : hdE h = 6 := if_neg k
theorem hdE_of {h : Hd} (k : hdE h = 0) : HdOk h := by
  unfold hdE at k
  split at k
  · assumption
  · cases k

/-- The state behind all parts of a message. -/
def endS (h : Hd) (qs : List Qn) (r1 r2 r3 : List Rn) : List Int × List (Int × List ByteArray) :=
  (r1 ++ r2 ++ r3).foldl stepR (qs.foldl stepQ (aheadN h qs.length r1.length r2.length r3.length, []))

/-- What is wrong with a message. -/
def msgE (h : Hd) (qs : List Qn) (r1 r2 r3 : List Rn) : Int :=
  if ¬ hdE h = 0 then hdE h else if 65535 < qs.length ∨ 65535 < r1.length ∨ 65535 < r2.length ∨ 65535 < r3.length then 7 else
    if ¬ firstE qE qs = 0 then firstE qE qs else if ¬ firstE rE (r1 ++ r2 ++ r3) = 0 then firstE rE (r1 ++ r2 ++ r3) else if 65535 < (endS h qs r1 r2 r3).1.length then 7 else 0

theorem good_qs {qs : List Qn} : ∀ {s : List Int × List (Int × List ByteArray)}, Good s → (∀ q ∈ qs, qE q = 0) → Good (qs.foldl stepQ s) := by
  induction qs with
  | nil => intro s h _; exact h
  | cons q qs ih =>
    intro s h hq
    rw [List.foldl_cons]
    exact ih (good_q h (qE_zero (hq q List.mem_cons_self)).1) fun x hx => hq x (List.mem_cons_of_mem _ hx)

theorem good_rs {rs : List Rn} : ∀ {s : List Int × List (Int × List ByteArray)}, Good s → (∀ r ∈ rs, rE r = 0) → (∀ r ∈ rs, ∀ b ∈ r.D, 0 ≤ b ∧ b ≤ 255) → Good (rs.foldl stepR s) := by
  induction rs with
  | nil => intro s h _ _; exact h
  | cons r rs ih =>
    intro s h hq hd
    rw [List.foldl_cons]
    exact ih (good_r h (recE_zero (hq r List.mem_cons_self)).1 (hd r List.mem_cons_self)) (fun x hx => hq x (List.mem_cons_of_mem _ hx)) fun x hx => hd x (List.mem_cons_of_mem _ hx)

theorem good_start {h : Hd} (k : HdOk h) (l0 l1 l2 l3 : Nat) : Good (aheadN h l0 l1 l2 l3, []) := ⟨ahead_bytes k l0 l1 l2 l3, TabOk.nil _, by simp⟩

theorem take_last {α : Type} {l : List α} {i : Nat} (h : i < l.length) : l.take (i + 1) = l.take i ++ [l[i]] := List.take_succ_eq_append_getElem h

theorem Dr.below {w w' : World} {g B : Nat} {out : List Int} {tab : List (Int × List ByteArray)} (h : Dr w g B out tab) (k : Below w.heap.size w w') : Dr w' g B out tab := by
  obtain ⟨x, c, b, h1, h2, h3, h4, h5⟩ := h
  exact ⟨x, c, b, h1.below k, owns_kept h2 k, h3.below k, h4, h5⟩

theorem DrS.below {w w' : World} {g B : Nat} {s : List Int × List (Int × List ByteArray)} (h : DrS w g B s) (k : Below w.heap.size w w') : DrS w' g B s := by
  rcases h with ⟨h1, h2⟩ | ⟨h1, h2, h3⟩
  · exact Or.inl ⟨h1, h2.below k⟩
  · exact Or.inr ⟨h1, h2.below k, h3⟩

theorem Qs.at {w : World} {B : Nat} {x : Option Addr} {c : Nat} {qs : List Qn} (h : Qs w B x c qs) {i : Nat} (hi : i < qs.length) : ∃ b off y s, x = some ⟨b, off, none⟩ ∧ b < w.heap.size ∧ w.cell? ⟨b, off + i * 3, none⟩ = some (.slice y qs[i].N.length s) ∧ w.cell? ⟨b, off + i * 3 + 1, none⟩ = some (.int .i64 qs[i].ty) ∧ w.cell? ⟨b, off + i * 3 + 2, none⟩ = some (.int .i64 qs[i].cl) ∧ Strs w y s qs[i].N := by
  rcases h.2.2 with h3 | ⟨b, off, hx, hb, _, hc⟩
  · rw [h3] at hi; simp at hi
  · obtain ⟨y, s, k1, k2, k3, k4, _⟩ := hc i hi
    exact ⟨b, off, y, s, hx, hb, k1, k2, k3, k4⟩

theorem Rs.at {w : World} {B : Nat} {x : Option Addr} {c : Nat} {rs : List Rn} (h : Rs w B x c rs) {i : Nat} (hi : i < rs.length) : ∃ b off y s z t, x = some ⟨b, off, none⟩ ∧ b < w.heap.size ∧ w.cell? ⟨b, off + i * 5, none⟩ = some (.slice y rs[i].N.length s) ∧ w.cell? ⟨b, off + i * 5 + 1, none⟩ = some (.int .i64 rs[i].ty) ∧ w.cell? ⟨b, off + i * 5 + 2, none⟩ = some (.int .i64 rs[i].cl) ∧ w.cell? ⟨b, off + i * 5 + 3, none⟩ = some (.int .i64 rs[i].ttl) ∧ w.cell? ⟨b, off + i * 5 + 4, none⟩ = some (.slice z rs[i].D.length t) ∧ Strs w y s rs[i].N ∧ Bys w z t rs[i].D ∧ (z = none → t = 0) := by
  rcases h.2.2 with h3 | ⟨b, off, hx, hb, _, hc⟩
  · rw [h3] at hi; simp at hi
  · obtain ⟨y, s, z, t, k1, k2, k3, k4, k5, k6, k7, k8, _⟩ := hc i hi
    exact ⟨b, off, y, s, z, t, hx, hb, k1, k2, k3, k4, k5, k6, k7, k8⟩

theorem Rs.data {w : World} {B : Nat} {x : Option Addr} {c : Nat} {rs : List Rn} (h : Rs w B x c rs) : ∀ r ∈ rs, ∀ b ∈ r.D, 0 ≤ b ∧ b ≤ 255 := by
  intro r hr
  obtain ⟨i, hi, rfl⟩ := List.mem_iff_getElem.1 hr
  obtain ⟨_, _, _, _, _, _, _, _, _, _, _, _, _, _, k, _⟩ := h.at hi
  exact k.2.2.1

/-- What msg.Write hands back. -/
def WrotePost (h : Hd) (qs : List Qn) (r1 r2 r3 : List Rn) (w : World) (e : Ending) (w' : World) : Prop :=
  (msgE h qs r1 r2 r3 = 0 ∧ ∃ x c, e = .returned (.tuple #[.slice x (endS h qs r1 r2 r3).1.length c, .nilIface]) ∧ Rowb w' w.heap.size (.slice x (endS h qs r1 r2 r3).1.length c) (endS h qs r1 r2 r3).1 ∧ Below w.heap.size w w') ∨
    (¬ msgE h qs r1 r2 r3 = 0 ∧ e = .returned (.tuple #[.slice none 0 0, .iface 29 (.int .i64 (msgE h qs r1 r2 r3))]) ∧ Below w.heap.size w w')

/-- Behind some questions. -/
def WRelQ (w : World) (B g : Nat) (C : Array Value) (qs : List Qn) (s0 : List Int × List (Int × List ByteArray)) (vi : Value) (wr : World) : Prop :=
  ∃ i : Nat, i ≤ qs.length ∧ vi = .int .i64 (i : Int) ∧ (∀ q ∈ qs.take i, qE q = 0) ∧ DrS wr g B ((qs.take i).foldl stepQ s0) ∧ Below w.heap.size w wr ∧ B ≤ wr.heap.size ∧ Bl 28 wr w.heap.size C

/-- Behind some records. -/
def WRelR (w : World) (B g : Nat) (C : Array Value) (rs : List Rn) (s0 : List Int × List (Int × List ByteArray)) (vi : Value) (wr : World) : Prop :=
  ∃ i : Nat, i ≤ rs.length ∧ vi = .int .i64 (i : Int) ∧ (∀ r ∈ rs.take i, rE r = 0) ∧ DrS wr g B ((rs.take i).foldl stepR s0) ∧ Below w.heap.size w wr ∧ B ≤ wr.heap.size ∧ Bl 28 wr w.heap.size C

/-- The records ahead of a section. -/
def aheadR (r1 r2 r3 : List Rn) : Nat → List Rn
  | 0 => []
  | 1 => r1
  | 2 => r1 ++ r2
  | _ => r1 ++ r2 ++ r3

def secR (r1 r2 r3 : List Rn) : Nat → List Rn
  | 0 => r1
  | 1 => r2
  | _ => r3

theorem ahead_next (r1 r2 r3 : List Rn) {n : Nat} (h : n < 3) : aheadR r1 r2 r3 (n + 1) = aheadR r1 r2 r3 n ++ secR r1 r2 r3 n := by
  match n, h with
  | 0, _ => rfl
  | 1, _ => rfl
  | 2, _ => rfl

theorem ahead_all (r1 r2 r3 : List Rn) {n : Nat} (h : n < 3) : ∃ post, r1 ++ r2 ++ r3 = aheadR r1 r2 r3 n ++ secR r1 r2 r3 n ++ post := by
  match n, h with
  | 0, _ => exact ⟨r2 ++ r3, by simp [aheadR, secR]⟩
  | 1, _ => exact ⟨r3, rfl⟩
  | 2, _ => exact ⟨[], by simp [aheadR, secR]⟩

theorem ahead_part (r1 r2 r3 : List Rn) {n : Nat} (h : n < 3) : ∀ r ∈ secR r1 r2 r3 n, r ∈ r1 ++ r2 ++ r3 := by
  obtain ⟨post, e⟩ := ahead_all r1 r2 r3 h
  intro r hr
  rw [e]
  simp [hr]

/-- Behind some sections. -/
def WRelS (w : World) (B g : Nat) (C : Array Value) (r1 r2 r3 : List Rn) (s0 : List Int × List (Int × List ByteArray)) (vi : Value) (wr : World) : Prop :=
  ∃ n : Nat, n ≤ 3 ∧ vi = .int .i64 (n : Int) ∧ (∀ r ∈ aheadR r1 r2 r3 n, rE r = 0) ∧ DrS wr g B ((aheadR r1 r2 r3 n).foldl stepR s0) ∧ Below w.heap.size w wr ∧ B ≤ wr.heap.size ∧ Bl 28 wr w.heap.size C

theorem sec_cell {w : World} {h : Hd} {vq : Value} {x1 x2 x3 : Option Addr} {c1 c2 c3 bq : Nat} {r1 r2 r3 : List Rn} {n : Nat} (hn : n < 3) (hr1 : Rs w bq x1 c1 r1) (hr2 : Rs w bq x2 c2 r2) (hr3 : Rs w bq x3 c3 r3) :
    ∃ xs cs, (#[.int .i64 h.id, .bool h.an, .int .i64 h.op, .bool h.aa, .bool h.tc, .bool h.rd, .bool h.ra, .bool h.z, .bool h.ad, .bool h.cd, .int .i64 h.code, vq, .slice x1 r1.length c1, .slice x2 r2.length c2, .slice x3 r3.length c3] : Array Value)[12 + n]? = some (.slice xs (secR r1 r2 r3 n).length cs) ∧ Rs w bq xs cs (secR r1 r2 r3 n) := by
  match n, hn with
  | 0, _ => exact ⟨x1, c1, rfl, hr1⟩
  | 1, _ => exact ⟨x2, c2, rfl, hr2⟩
  | 2, _ => exact ⟨x3, c3, rfl, hr3⟩

theorem sec_index0 (b : Nat) (u : World) : (Instr.index 77 (secsV b) (.int .i64 0)).run Tryd.prog u = .ok (.pointer (some ⟨b, 12, none⟩)) u := by kernel_rfl
theorem sec_index1 (b : Nat) (u : World) : (Instr.index 77 (secsV b) (.int .i64 1)).run Tryd.prog u = .ok (.pointer (some ⟨b, 13, none⟩)) u := by kernel_rfl
theorem sec_index2 (b : Nat) (u : World) : (Instr.index 77 (secsV b) (.int .i64 2)).run Tryd.prog u = .ok (.pointer (some ⟨b, 14, none⟩)) u := by kernel_rfl

theorem sec_index (b : Nat) {n : Nat} (hn : n < 3) : ∀ u : World, (Instr.index 77 (secsV b) (.int .i64 (n : Int))).run Tryd.prog u = .ok (.pointer (some ⟨b, 12 + n, none⟩)) u := by
  intro u
  match n, hn with
  | 0, _ => exact sec_index0 b u
  | 1, _ => exact sec_index1 b u
  | 2, _ => exact sec_index2 b u

set_option maxHeartbeats 4000000 in
set_option maxRecDepth 100000 in
theorem mwrite_any {xq x1 x2 x3 : Option Addr} {cq c1 c2 c3 bq : Nat} (h : Hd) (qs : List Qn) (r1 r2 r3 : List Rn) (w : World) (hq : Qs w bq xq cq qs) (hr1 : Rs w bq x1 c1 r1) (hr2 : Rs w bq x2 c2 r2) (hr3 : Rs w bq x3 c3 r3) :
    Calls Tryd.prog 10 #[.agg #[.int .i64 h.id, .bool h.an, .int .i64 h.op, .bool h.aa, .bool h.tc, .bool h.rd, .bool h.ra, .bool h.z, .bool h.ad, .bool h.cd, .int .i64 h.code, .slice xq qs.length cq, .slice x1 r1.length c1, .slice x2 r2.length c2, .slice x3 r3.length c3]] w (WrotePost h qs r1 r2 r3 w) := by
  have lq := hq.2.1
  have l1 := hr1.2.1
  have l2 := hr2.2.1
  have l3 := hr3.2.1
  go_enter Tryd.func10, Tryd.ntmps10
  go_wp2_with fail
  have B0 : Below w.heap.size w _ := (Below.refl _ w).alloc (Nat.le_refl _) (.cells #[.int .i64 h.id, .bool h.an, .int .i64 h.op, .bool h.aa, .bool h.tc, .bool h.rd, .bool h.ra, .bool h.z, .bool h.ad, .bool h.cd, .int .i64 h.code, .slice xq qs.length cq, .slice x1 r1.length c1, .slice x2 r2.length c2, .slice x3 r3.length c3] 28)
  have K0 := Bl.new 28 w #[.int .i64 h.id, .bool h.an, .int .i64 h.op, .bool h.aa, .bool h.tc, .bool h.rd, .bool h.ra, .bool h.z, .bool h.ad, .bool h.cd, .int .i64 h.code, .slice xq qs.length cq, .slice x1 r1.length c1, .slice x2 r2.length c2, .slice x3 r3.length c3]
  have e0 : (w.alloc (.cells #[.int .i64 h.id, .bool h.an, .int .i64 h.op, .bool h.aa, .bool h.tc, .bool h.rd, .bool h.ra, .bool h.z, .bool h.ad, .bool h.cd, .int .i64 h.code, .slice xq qs.length cq, .slice x1 r1.length c1, .slice x2 r2.length c2, .slice x3 r3.length c3] 28)).heap.size = w.heap.size + 1 := by simp
  refine (begin_any h qs.length r1.length r2.length r3.length _ lq l1 l2 l3).mono ?_
  rintro e w1 (⟨hh, rfl, d1⟩ | ⟨hh, hl, rfl, d1⟩ | ⟨hh, hl, g, rfl, hd, d1⟩)
  · have E : Hid (msgE h qs r1 r2 r3 = 6) := hid (by unfold msgE; rw [hdE_no hh, if_pos (by decide)])
    have B1 := hid (grown_on B0 d1)
    clear B0 K0 d1 hh e0
    go_wp2_with fail
    go_ret2
    exact Or.inr ⟨by rw [E.out]; decide, by rw [E.out]; rfl, B1.out⟩
  · have E : Hid (msgE h qs r1 r2 r3 = 7) := hid (by unfold msgE; rw [hdE_ok hh, if_neg (by simp), if_pos hl])
    have B1 := hid (grown_on B0 d1)
    clear B0 K0 d1 hh e0 hl
    go_wp2_with fail
    go_ret2
    exact Or.inr ⟨by rw [E.out]; decide, by rw [E.out]; rfl, B1.out⟩
  obtain ⟨n0, n1, n2, n3⟩ := hl
  rw [e0] at hd d1
  have K1 := K0.under (Nat.lt_succ_self _) d1
  have B1 : Below w.heap.size w w1 := B0.trans (d1.mono (Nat.le_succ _))
  have k11 := K1.cell (i := 11) rfl
  have hs1 : w.heap.size + 1 ≤ w1.heap.size := by have := d1.size; omega
  have KK1 := hid K1
  have D1 := hid hd
  have HH := hid hh
  have G0 := hid (good_start hh qs.length r1.length r2.length r3.length)
  clear K0 d1 hh hd K1 B0 e0
  have BW : Hid (Below w.heap.size w w1) := hid B1
  clear B1
  go_wp2_with fail
  go_loopw [25] (fun vi wr => WRelQ w (w.heap.size + 1) g #[.int .i64 h.id, .bool h.an, .int .i64 h.op, .bool h.aa, .bool h.tc, .bool h.rd, .bool h.ra, .bool h.z, .bool h.ad, .bool h.cd, .int .i64 h.code, .slice xq qs.length cq, .slice x1 r1.length c1, .slice x2 r2.length c2, .slice x3 r3.length c3] qs (aheadN h qs.length r1.length r2.length r3.length, []) vi wr) (fun i _ => qs.length - (intOf i).toNat)
  case atStart => exact ⟨0, Nat.zero_le _, rfl, fun q hq => by simp at hq, Or.inl ⟨by show (aheadN h qs.length r1.length r2.length r3.length).length ≤ 65535; rw [ahead_len]; decide, D1.out⟩, BW.out, hs1, KK1.out⟩
  case round =>
    clear D1 KK1 BW k11 hs1
    obtain ⟨i, hi, rfl, hall, hds, hbel, hBr, hbl⟩ := hrel
    by_cases ci : i < qs.length
    · obtain ⟨b, off, y, s, rfl, hb, e1, e2, e3, e4⟩ := (hq.below hbel).at ci
      have hGd := hid (good_qs G0.out hall)
      have HT := hid (take_last ci)
      have HAL := hid hall
      have HMEM := hid (List.getElem_mem ci)
      have HSP : Hid (qs = qs.take i ++ qs[i] :: qs.drop (i + 1)) := hid (by rw [← List.drop_eq_getElem_cons ci, List.take_append_drop])
      generalize qs[i] = q at *
      have BA : Below wr.heap.size wr (wr.alloc (.cells #[.slice y q.N.length s, .int .i64 q.ty, .int .i64 q.cl] 65)) := (Below.refl _ wr).alloc (Nat.le_refl _) _
      have DA := hid (hds.below BA)
      have NA := hid (e4.below BA)
      have LA := hid (hbl.below BA)
      have HB := hid (grown_on hbel BA)
      have hBr2 : w.heap.size + 1 ≤ (wr.alloc (.cells #[.slice y q.N.length s, .int .i64 q.ty, .int .i64 q.cl] 65)).heap.size := Nat.le_trans hBr BA.size
      have ci2 : (i : Int) < (qs.length : Int) := by omega
      clear hds e4 hbl hbel hall BA
      go_wp2_with fail
      refine (addq_any g (w.heap.size + 1) ((qs.take i).foldl stepQ (aheadN h qs.length r1.length r2.length r3.length, [])) q _ hGd.out DA.out hBr2 NA.out).mono ?_
      rintro e w3 ⟨rfl, d3, hst⟩
      have HB3 := hid (HB.out.trans (d3.mono (Nat.le_succ _)))
      have HL3 := hid (LA.out.under (Nat.lt_succ_self _) d3)
      have hs3 : w.heap.size + 1 ≤ w3.heap.size := Nat.le_trans hBr2 d3.size
      clear e1 e2 e3 d3 DA NA LA HB
      by_cases k0 : qE q = 0
      · have ST := hid (hst k0)
        have KQ := hid k0
        rw [k0, errV_none]
        clear hst k0 hBr2
        go_wp2_with fail
        exact ⟨⟨i + 1, by omega, by go_num, (by
          rw [HT.out]
          intro x hx
          rcases List.mem_append.1 hx with hx | hx
          · exact HAL.out x hx
          · rw [List.mem_singleton.1 hx]; exact KQ.out), by rw [HT.out, List.foldl_append]; exact ST.out, HB3.out, hs3, HL3.out⟩, by simp [intOf]; omega⟩
      · have KQ := hid k0
        rw [errV_some k0]
        have E : Hid (msgE h qs r1 r2 r3 = qE q) := hid (by
          have f := firstE_at (post := qs.drop (i + 1)) HAL.out k0
          rw [← HSP.out] at f
          unfold msgE
          rw [hdE_ok HH.out, if_neg (by simp), if_neg (by omega), f, if_pos k0])
        clear hst k0 hBr2
        go_wp2_with fail
        go_ret2
        exact Or.inr ⟨by rw [E.out]; exact KQ.out, by rw [E.out]; rfl, HB3.out⟩
    · have ci2 : ¬ (i : Int) < (qs.length : Int) := by omega
      have et : qs.take i = qs := List.take_of_length_le (by omega)
      rw [et] at hall hds
      have G1 := hid (good_qs G0.out hall)
      have QA := hid hall
      have DS := hid hds
      have HB := hid hbel
      have LB := hid hbl
      obtain ⟨sq, hsq⟩ : ∃ sq, qs.foldl stepQ (aheadN h qs.length r1.length r2.length r3.length, []) = sq := ⟨_, rfl⟩
      rw [hsq] at G1 DS
      have SQ := hid hsq
      clear hall hds hbel hbl et hsq G0
      go_wp2_with fail
      refine (records_any w.heap.size _).mono ?_
      rintro e w4 ⟨rfl, d4⟩
      have ST : Hid (WRelS w (w.heap.size + 1) g #[.int .i64 h.id, .bool h.an, .int .i64 h.op, .bool h.aa, .bool h.tc, .bool h.rd, .bool h.ra, .bool h.z, .bool h.ad, .bool h.cd, .int .i64 h.code, .slice xq qs.length cq, .slice x1 r1.length c1, .slice x2 r2.length c2, .slice x3 r3.length c3] r1 r2 r3 sq (.int .i64 0) w4) := hid ⟨0, by omega, rfl, (fun r hr => by simp [aheadR] at hr), DS.out.below d4, grown_on HB.out d4, Nat.le_trans hBr d4.size, LB.out.below d4⟩
      clear d4 DS HB LB
      go_wp2_with fail
      go_loopw [37] (fun vi wr => WRelS w (w.heap.size + 1) g #[.int .i64 h.id, .bool h.an, .int .i64 h.op, .bool h.aa, .bool h.tc, .bool h.rd, .bool h.ra, .bool h.z, .bool h.ad, .bool h.cd, .int .i64 h.code, .slice xq qs.length cq, .slice x1 r1.length c1, .slice x2 r2.length c2, .slice x3 r3.length c3] r1 r2 r3 sq vi wr) (fun i _ => 3 - (intOf i).toNat)
      case atStart => exact ST.out
      case round =>
        clear ST
        obtain ⟨n, hn, rfl, hall, hds, hbel, hBr4, hbl⟩ := hrel
        by_cases cn : n < 3
        · have hDA : Hid (∀ r ∈ r1 ++ r2 ++ r3, ∀ b ∈ r.D, 0 ≤ b ∧ b ≤ 255) := hid (by
            intro r hr
            simp only [List.mem_append] at hr
            rcases hr with (hr | hr) | hr
            · exact hr1.data r hr
            · exact hr2.data r hr
            · exact hr3.data r hr)
          obtain ⟨post, hpost⟩ := ahead_all r1 r2 r3 cn
          have hGn : Hid (Good ((aheadR r1 r2 r3 n).foldl stepR sq)) := hid (good_rs G1.out hall (fun r hr => hDA.out r (by rw [hpost]; simp [hr])))
          have HDN : Hid (∀ r ∈ secR r1 r2 r3 n, ∀ b ∈ r.D, 0 ≤ b ∧ b ≤ 255) := hid (fun r hr => hDA.out r (ahead_part r1 r2 r3 cn r hr))
          have HPO := hid hpost
          have HNX := hid (ahead_next r1 r2 r3 cn)
          have HAL := hid hall
          obtain ⟨xs, cs, hcell, hrs⟩ := sec_cell (h := h) (vq := .slice xq qs.length cq) cn hr1 hr2 hr3
          have m1 := hbl.cell hcell
          have hsl := hrs.2.1
          have RS := hid hrs
          have jn : ∀ u : World, (Instr.index 77 (secsV w.heap.size) (.int .i64 (n : Int))).run Tryd.prog u = .ok (.pointer (some ⟨w.heap.size, 12 + n, none⟩)) u := sec_index w.heap.size cn
          have cn2 : (n : Int) < 3 := by omega
          obtain ⟨sn, hsn⟩ : ∃ sn, (aheadR r1 r2 r3 n).foldl stepR sq = sn := ⟨_, rfl⟩
          rw [hsn] at hGn hds
          have SN := hid hsn
          clear hpost hall hcell hrs hsn hDA
          generalize secR r1 r2 r3 n = rs at *
          have ST0 : Hid (WRelR w (w.heap.size + 1) g #[.int .i64 h.id, .bool h.an, .int .i64 h.op, .bool h.aa, .bool h.tc, .bool h.rd, .bool h.ra, .bool h.z, .bool h.ad, .bool h.cd, .int .i64 h.code, .slice xq qs.length cq, .slice x1 r1.length c1, .slice x2 r2.length c2, .slice x3 r3.length c3] rs sn (.int .i64 0) wr) := hid ⟨0, Nat.zero_le _, rfl, (fun r hr => by simp at hr), hds, hbel, hBr4, hbl⟩
          clear hds hbel hbl hBr4
          go_wp2_with fail
          go_loopw [44] (fun vi wr => WRelR w (w.heap.size + 1) g #[.int .i64 h.id, .bool h.an, .int .i64 h.op, .bool h.aa, .bool h.tc, .bool h.rd, .bool h.ra, .bool h.z, .bool h.ad, .bool h.cd, .int .i64 h.code, .slice xq qs.length cq, .slice x1 r1.length c1, .slice x2 r2.length c2, .slice x3 r3.length c3] rs sn vi wr) (fun i _ => rs.length - (intOf i).toNat)
          case atStart => exact ST0.out
          case round =>
            clear ST0
            obtain ⟨i, hi, rfl, hall, hds, hbel, hBr5, hbl⟩ := hrel
            by_cases ci : i < rs.length
            · obtain ⟨b, off, y, s, z, t, rfl, hb, e1, e2, e3, e4, e5, f1, f2, f3⟩ := (RS.out.below hbel).at ci
              have hGd := hid (good_rs hGn.out hall (fun r hr => HDN.out r (List.mem_of_mem_take hr)))
              have HT := hid (take_last ci)
              have HAI := hid hall
              have HSP : Hid (rs = rs.take i ++ rs[i] :: rs.drop (i + 1)) := hid (by rw [← List.drop_eq_getElem_cons ci, List.take_append_drop])
              generalize rs[i] = r at *
              have BA : Below wr.heap.size wr (wr.alloc (.cells #[.slice y r.N.length s, .int .i64 r.ty, .int .i64 r.cl, .int .i64 r.ttl, .slice z r.D.length t] 67)) := (Below.refl _ wr).alloc (Nat.le_refl _) _
              have DA := hid (hds.below BA)
              have NA := hid (f1.below BA)
              have ZA := hid (f2.below BA)
              have LA := hid (hbl.below BA)
              have HB := hid (grown_on hbel BA)
              have hBr6 : w.heap.size + 1 ≤ (wr.alloc (.cells #[.slice y r.N.length s, .int .i64 r.ty, .int .i64 r.cl, .int .i64 r.ttl, .slice z r.D.length t] 67)).heap.size := Nat.le_trans hBr5 BA.size
              have ci2 : (i : Int) < (rs.length : Int) := by omega
              have F3 := hid f3
              clear hds f1 f2 f3 hbl hbel hall BA
              go_wp2_with fail
              refine (addr_any g (w.heap.size + 1) ((rs.take i).foldl stepR sn) r _ hGd.out DA.out hBr6 NA.out ZA.out F3.out).mono ?_
              rintro e w5 ⟨rfl, d5, hst⟩
              have HB5 := hid (HB.out.trans (d5.mono (Nat.le_succ _)))
              have HL5 := hid (LA.out.under (Nat.lt_succ_self _) d5)
              have hs5 : w.heap.size + 1 ≤ w5.heap.size := Nat.le_trans hBr6 d5.size
              clear e1 e2 e3 e4 e5 d5 DA NA ZA LA HB
              by_cases k0 : rE r = 0
              · have ST := hid (hst k0)
                have KQ := hid k0
                rw [k0, errV_none]
                clear hst k0 hBr6
                go_wp2_with fail
                exact ⟨⟨i + 1, by omega, by go_num, (by
                  rw [HT.out]
                  intro x hx
                  rcases List.mem_append.1 hx with hx | hx
                  · exact HAI.out x hx
                  · rw [List.mem_singleton.1 hx]; exact KQ.out), by rw [HT.out, List.foldl_append]; exact ST.out, HB5.out, hs5, HL5.out⟩, by simp [intOf]; omega⟩
              · have KQ := hid k0
                rw [errV_some k0]
                have E : Hid (msgE h qs r1 r2 r3 = rE r) := hid (by
                  have f := firstE_at (f := rE) (pre := aheadR r1 r2 r3 n ++ rs.take i) (post := rs.drop (i + 1) ++ post) (x := r) (fun y hy => (List.mem_append.1 hy).elim (HAL.out y) (HAI.out y)) k0
                  have e : aheadR r1 r2 r3 n ++ rs.take i ++ r :: (rs.drop (i + 1) ++ post) = r1 ++ r2 ++ r3 := by
                    rw [HPO.out]
                    conv => rhs; rw [HSP.out]
                    simp
                  rw [e] at f
                  unfold msgE
                  rw [hdE_ok HH.out, if_neg (by simp), if_neg (by omega), firstE_zero QA.out, if_neg (by simp), f, if_pos k0])
                clear hst k0 hBr6
                go_wp2_with fail
                go_ret2
                exact Or.inr ⟨by rw [E.out]; exact KQ.out, by rw [E.out]; rfl, HB5.out⟩
            · have ci2 : ¬ (i : Int) < (rs.length : Int) := by omega
              have et : rs.take i = rs := List.take_of_length_le (by omega)
              rw [et] at hall hds
              have HAI := hid hall
              have DS := hid hds
              have HB := hid hbel
              have LB := hid hbl
              clear hall hds hbel hbl et
              go_wp2_with fail
              exact ⟨⟨n + 1, by omega, by go_num, (by
                rw [HNX.out]
                intro x hx
                rcases List.mem_append.1 hx with hx | hx
                · exact HAL.out x hx
                · exact HAI.out x hx), by rw [HNX.out, List.foldl_append, SN.out]; exact DS.out, HB.out, hBr5, LB.out⟩, by simp [intOf]; omega⟩
        · have en : n = 3 := by omega
          subst en
          have ea : aheadR r1 r2 r3 3 = r1 ++ r2 ++ r3 := rfl
          rw [ea] at hall hds
          have ES : Hid ((r1 ++ r2 ++ r3).foldl stepR sq = endS h qs r1 r2 r3) := hid (by unfold endS; rw [SQ.out])
          rw [ES.out] at hds
          have EM : Hid (msgE h qs r1 r2 r3 = if 65535 < (endS h qs r1 r2 r3).1.length then 7 else 0) := hid (by
            unfold msgE
            rw [hdE_ok HH.out, if_neg (by simp), if_neg (by omega), firstE_zero QA.out, if_neg (by simp), firstE_zero hall, if_neg (by simp)])
          have HB := hid hbel
          clear hall hbel hbl ea cn
          rcases hds with ⟨h6, x, c, b, k1, k2, k3, k4, k5⟩ | ⟨h6, k1, k4⟩
          · have EZ : Hid (msgE h qs r1 r2 r3 = 0) := hid (by rw [EM.out, if_neg (by omega)])
            have d0 := k1.cell (i := 0) rfl
            have d2 := k1.cell (i := 2) rfl
            have RB : Hid (Rowb wr w.heap.size (.slice x (endS h qs r1 r2 r3).1.length c) (endS h qs r1 r2 r3).1) := hid (owns_base k2 (Nat.le_succ _))
            clear k1 k2 k3 k4 k5
            go_wp2_with fail
            go_ret2
            exact Or.inl ⟨EZ.out, x, c, rfl, RB.out, HB.out⟩
          · have EZ : Hid (msgE h qs r1 r2 r3 = 7) := hid (by rw [EM.out, if_pos h6])
            have d2 := k1.cell (i := 2) rfl
            clear k1 k4
            go_wp2_with fail
            go_ret2
            exact Or.inr ⟨by rw [EZ.out]; decide, by rw [EZ.out]; rfl, HB.out⟩

end Go.Proofs.YtbbgabdiikdjpaaDoor
