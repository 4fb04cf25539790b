/-
  The walks of parts at questions and at records: so many, one behind the other, in new memory; nothing that was there is written.
-/
import Derived.Test.YtbbgabdiikdjpaaDoorMgMem
namespace Go.Proofs.YtbbgabdiikdjpaaDoor
open Go.RowKit Go.Deep

theorem info_question : (Tryd.prog.info? 65).map (fun i => (i.zero, i.size, i.bytes)) = some (some (.agg #[.slice none 0 0, .int .i64 0, .int .i64 0]), 3, 40) := by kernel_rfl
theorem info_of_question : ∃ i, Tryd.prog.info? 65 = some i ∧ i.zero = some (.agg #[.slice none 0 0, .int .i64 0, .int .i64 0]) ∧ i.size = 3 ∧ i.bytes = 40 := info_parts info_question
theorem info_record : (Tryd.prog.info? 67).map (fun i => (i.zero, i.size, i.bytes)) = some (some (.agg #[.slice none 0 0, .int .i64 0, .int .i64 0, .int .i64 0, .slice none 0 0]), 5, 72) := by kernel_rfl
theorem info_of_record : ∃ i, Tryd.prog.info? 67 = some i ∧ i.zero = some (.agg #[.slice none 0 0, .int .i64 0, .int .i64 0, .int .i64 0, .slice none 0 0]) ∧ i.size = 5 ∧ i.bytes = 72 := info_parts info_record

theorem cells_new2 (w : World) (o : Obj) (cs : List Value) (t : TypeId) : ∀ j u, cs[j]? = some u → ((w.alloc o).alloc (.cells cs.toArray t)).cell? ((⟨w.heap.size + 1, 0, none⟩ : Addr).add j) = some u := by
  have h := cells_new (w.alloc o) cs t
  have e : (w.alloc o).heap.size = w.heap.size + 1 := by simp
  rw [e] at h
  exact h

theorem grown_below' {w w1 w2 : World} {B e n m : Nat} {v : Value} {xs : List Value} (hr : w1.ownsRow B e m v n xs) (hb : Below B w w1) (hB : B ≤ w1.heap.size) (hg : w1.grownBy w2 v.ownBlock) : Below B w w2 :=
  hb.grown hg hB (fun k hk => (World.ownsRow.lt hr k hk).1)

def PartsQ (k : Int) (qs : List Qn) (n : Int) (w : World) (e : Ending) (w' : World) : Prop :=
  ∃ y s, e = .returned (.tuple #[.slice y qs.length s, .int .i64 n, errV k]) ∧ Qs w' w.heap.size y s qs ∧ Below w.heap.size w w'

def PartsR (k : Int) (rs : List Rn) (n : Int) (w : World) (e : Ending) (w' : World) : Prop :=
  ∃ y s, e = .returned (.tuple #[.slice y rs.length s, .int .i64 n, errV k]) ∧ Rs w' w.heap.size y s rs ∧ Below w.heap.size w w'

def QRel (ms : List Int) (a0 count : Nat) (w : World) (vl va vi : Value) (wr : World) : Prop :=
  ∃ ys b, ys.length ≤ count ∧ Parts (readQ ms) a0 ys b ∧ b ≤ ms.length ∧ QRow wr w.heap.size vl ys ∧ va = .int .i64 (b : Int) ∧ vi = .int .i64 (ys.length : Int) ∧ Below w.heap.size w wr

set_option maxHeartbeats 1000000 in
set_option maxRecDepth 100000 in
theorem parts_q {x : Option Addr} {c l : Nat} (k : Int) (qs : List Qn) (n : Nat) (ms : List Int) (a0 count : Nat) (w : World) (h : Bys w x c ms) (hl : ms.length = l) (ha : a0 ≤ ms.length) (hc : count ≤ 65535) (hr : partsN (readQ ms) count a0 = (k, qs, n)) :
    Calls Tryd.prog 26 #[.slice x l c, .int .i64 (a0 : Int), .int .i64 (count : Int), .func (.func 28) #[] #[]] w (PartsQ k qs (n : Int) w) := by
  subst hl
  have hlen : ms.length ≤ 200000000000000 := h.2.1
  have hbs := h.2.2.1
  obtain ⟨i0, hi, hz0, hz1, hz2⟩ := info_of_question
  go_enter Tryd.func26, Tryd.ntmps26
  go_wp2_with fail
  go_loopw [11, 1, 16] (fun vl va vi wr => QRel ms a0 count w vl va vi wr) (fun _ _ i _ => count - (intOf i).toNat)
  case atStart => exact ⟨[], a0, Nat.zero_le _, rfl, ha, QRow.nil w _, rfl, rfl, Below.refl _ w⟩
  case round =>
    obtain ⟨ys, b, hy, hp, hb, hrow, rfl, rfl, hbel⟩ := hrel
    by_cases c1 : ys.length < count
    · obtain ⟨st, hst⟩ : ∃ st, readQ ms b = st := ⟨_, rfl⟩
      obtain ⟨k1, q, nx⟩ := st
      have P := hid hp
      have HR := hid hr
      have R0 := hid hrow
      have B0 := hid hbel
      have c2 : (ys.length : Int) < (count : Int) := by omega
      have h9 : (b : Int) ≤ 9223372036854775807 := by omega
      clear hp hr hrow hbel
      by_cases k0 : k1 = 0
      · subst k0
        obtain ⟨_, hn2⟩ := readQ_step hbs b q nx hst
        have Q := hid hst
        clear hst
        go_wp2_with fail
        refine (readq_good q nx ms b _ (h.below B0.out) rfl Q.out).mono ?_
        rintro e w1 ⟨y, s, rfl, hs1, b1, fr1⟩
        have R1 := R0.out.below b1
        have B1 := hid (grown_on B0.out b1)
        have hw1 : w.heap.size ≤ w1.heap.size := B1.out.size
        have hwr : wr.heap.size ≤ w1.heap.size := b1.size
        obtain ⟨L, hL, hown, hin⟩ := R1
        have FR : Hid (∀ a, y = some a → w.heap.size ≤ a.block ∧ (q.N = [] ∨ some a.block ≠ u11.ownBlock)) := hid (fun a e => by
          have f1 := fr1 a e
          refine ⟨Nat.le_trans B0.out.size f1, Or.inr fun e2 => ?_⟩
          obtain ⟨L0, _, o0, _⟩ := R0.out
          have := (World.ownsRow.lt o0 _ e2.symm).2
          omega)
        have hLl : L.length = ys.length := by rw [← hL, List.length_map]
        have HL := hid hL
        have HIN := hid hin
        have S1 := hid hs1
        have hlm : (L.length + 1) * 40 ≤ 140737488355328 := by omega
        have hlm2 : L.length + 1 ≤ maxLen := by unfold maxLen; omega
        have HLL := hid hLl
        clear hL hin hs1 fr1 b1 hLl
        go_wp2_with (at_builtin; refine wpList_append_own_at _ rfl _ _ 25 rfl w.heap.size 65 i0 (.agg #[.slice none 0 0, .int .i64 0, .int .i64 0]) 3 40 Tryd.underlying25 hi hz0 hz1 hz2 rfl (by decide) _ L.length (L.flatMap qcells) rfl ((hown.alloc _).alloc _) ⟨w1.heap.size + 1, 0, none⟩ 1 1 [.slice y q.N.length s, .int .i64 q.ty, .int .i64 q.cl] rfl rfl (cells_new2 _ _ _ _) (by intro u hu; simp at hu; rcases hu with rfl | rfl | rfl <;> rfl) hlm2 hlm (by simp; omega) ?_)
        intro v1 w2 hown1 hgrow1 _ hloc
        have BA : Below w1.heap.size w1 ((w1.alloc (.cells #[.slice y q.N.length s, .int .i64 q.ty, .int .i64 q.cl] 65)).alloc (.cells #[.slice y q.N.length s, .int .i64 q.ty, .int .i64 q.cl] 65)) := ((Below.refl _ w1).alloc (Nat.le_refl _) _).alloc (by simp) _
        have row2 := hid (QRow.snoc (q := q) (y := y) (s := s) (fun e he => ⟨(HIN.out e he).1.below BA, (HIN.out e he).2⟩) (S1.out.below BA) FR.out hown1 hgrow1 (by simpa using hloc))
        have bel2 := hid (grown_below' ((hown.alloc _).alloc _) (grown_on B1.out BA) (by simp; omega) hgrow1)
        clear hown1 hgrow1 hloc BA hown
        go_wp2_with fail
        exact ⟨⟨ys ++ [q], nx, by rw [List.length_append]; simp; omega, parts_snoc P.out Q.out, hn2, by rw [← HL.out]; exact row2.out, rfl, by rw [List.length_append]; go_num, bel2.out⟩, by simp [intOf]; omega⟩
      · have K := hid k0
        have Q : Hid ((readQ ms b).1 = k1) := hid (by rw [hst])
        have E : Hid (k = k1 ∧ qs = [] ∧ n = 0) := hid (by
          have := parts_err k0 P.out c1 (by rw [hst] : (readQ ms b).1 = k1)
          rw [HR.out] at this
          cases this
          exact ⟨rfl, rfl, rfl⟩)
        clear hst k0
        go_wp2_with fail
        refine (readq_bad k1 ms b _ (h.below B0.out) rfl h9 Q.out K.out).mono ?_
        rintro e w1 ⟨rfl, b1⟩
        have B1 := hid (grown_on B0.out b1)
        clear b1
        go_wp2_with fail
        go_ret3
        obtain ⟨rfl, rfl, rfl⟩ := E.out
        exact ⟨none, 0, by rw [errV_some K.out]; rfl, Qs.nil _ _ none 0, B1.out.alloc B1.out.size _⟩
    · have c2 : ¬ (ys.length : Int) < (count : Int) := by omega
      have E : Hid (k = 0 ∧ qs = ys ∧ n = b) := hid (by
        have := parts_of hp
        have e : ys.length = count := by omega
        rw [e, hr] at this
        cases this
        exact ⟨rfl, rfl, rfl⟩)
      obtain ⟨y, s, rfl, hq⟩ := hrow.open (by omega)
      clear hr hp
      go_wp2_with fail
      go_ret3
      obtain ⟨rfl, rfl, rfl⟩ := E.out
      exact ⟨y, s, rfl, hq, hbel⟩

def RAt (r : Rn) (n : Int) (w : World) (e : Ending) (w' : World) : Prop :=
  ∃ y s z t, e = .returned (.tuple #[.agg #[.slice y r.N.length s, .int .i64 r.ty, .int .i64 r.cl, .int .i64 r.ttl, .slice z r.D.length t], .int .i64 n, .nilIface]) ∧ Strs w' y s r.N ∧ Bys w' z t r.D ∧ (z = none → t = 0) ∧ Below w.heap.size w w' ∧ (∀ a, y = some a → w.heap.size ≤ a.block) ∧ ∀ a, z = some a → w.heap.size ≤ a.block

theorem readr_good {x : Option Addr} {c l : Nat} (r : Rn) (n : Nat) (ms : List Int) (a : Nat) (w : World) (h : Bys w x c ms) (hl : ms.length = l) (hr : readR ms a = (0, r, n)) :
    Calls Tryd.prog 31 #[.slice x l c, .int .i64 (a : Int)] w (RAt r (n : Int) w) := by
  have hlen : ms.length ≤ 200000000000000 := h.2.1
  obtain ⟨hs1, hs2⟩ := readR_step h.2.2.1 a r n hr
  obtain ⟨L, m, h1, h2, h3, rfl⟩ := readR_ok hr
  rw [h2] at h1
  refine (rread_good L m (pairN ms (m + 8)) ms _ _ _ _ (a : Int) w h hl (by omega) h1 rfl rfl rfl rfl).mono ?_
  rintro e w' ⟨y, q, z, t, rfl, k1, k2, k3, k4, k5, k6⟩
  have e2 : (n : Int) = (m : Int) + 10 + (pairN ms (m + 8) : Int) := by omega
  exact ⟨y, q, z, t, by rw [e2, List.length_map], k1, k2, k3, k4, k5, k6⟩

theorem readr_bad {x : Option Addr} {c l : Nat} (k : Int) (ms : List Int) (a : Nat) (w : World) (h : Bys w x c ms) (hl : ms.length = l) (h9 : (a : Int) ≤ 9223372036854775807) (hr : (readR ms a).1 = k) (hk : ¬ k = 0) :
    Calls Tryd.prog 31 #[.slice x l c, .int .i64 (a : Int)] w fun e w' => e = .returned (.tuple #[.agg #[.slice none 0 0, .int .i64 0, .int .i64 0, .int .i64 0, .slice none 0 0], .int .i64 0, .iface 29 (.int .i64 k)]) ∧ Below w.heap.size w w' := by
  refine rread_no k ms (a : Int) w h hl h9 ?_ hk
  obtain ⟨s, hs⟩ : ∃ s, recW ms (a : Int) = s := ⟨_, rfl⟩
  obtain ⟨k1, L, m, n⟩ := s
  by_cases k0 : k1 = 0
  · subst k0
    rw [readR_of hs] at hr
    exact absurd hr.symm hk
  · rw [readR_bad (k := k1) (by rw [hs]) k0] at hr
    rw [hs]
    exact hr

def RRel (ms : List Int) (a0 count : Nat) (w : World) (vl va vi : Value) (wr : World) : Prop :=
  ∃ ys b, ys.length ≤ count ∧ Parts (readR ms) a0 ys b ∧ b ≤ ms.length ∧ RRow wr w.heap.size vl ys ∧ va = .int .i64 (b : Int) ∧ vi = .int .i64 (ys.length : Int) ∧ Below w.heap.size w wr

set_option maxHeartbeats 1000000 in
set_option maxRecDepth 100000 in
theorem parts_r {x : Option Addr} {c l : Nat} (k : Int) (rs : List Rn) (n : Nat) (ms : List Int) (a0 count : Nat) (w : World) (h : Bys w x c ms) (hl : ms.length = l) (ha : a0 ≤ ms.length) (hc : count ≤ 65535) (hr : partsN (readR ms) count a0 = (k, rs, n)) :
    Calls Tryd.prog 30 #[.slice x l c, .int .i64 (a0 : Int), .int .i64 (count : Int), .func (.func 31) #[] #[]] w (PartsR k rs (n : Int) w) := by
  subst hl
  have hlen : ms.length ≤ 200000000000000 := h.2.1
  have hbs := h.2.2.1
  obtain ⟨i0, hi, hz0, hz1, hz2⟩ := info_of_record
  go_enter Tryd.func30, Tryd.ntmps30
  go_wp2_with fail
  go_loopw [11, 1, 16] (fun vl va vi wr => RRel ms a0 count w vl va vi wr) (fun _ _ i _ => count - (intOf i).toNat)
  case atStart => exact ⟨[], a0, Nat.zero_le _, rfl, ha, RRow.nil w _, rfl, rfl, Below.refl _ w⟩
  case round =>
    obtain ⟨ys, b, hy, hp, hb, hrow, rfl, rfl, hbel⟩ := hrel
    by_cases c1 : ys.length < count
    · obtain ⟨st, hst⟩ : ∃ st, readR ms b = st := ⟨_, rfl⟩
      obtain ⟨k1, q, nx⟩ := st
      have P := hid hp
      have HR := hid hr
      have R0 := hid hrow
      have B0 := hid hbel
      have c2 : (ys.length : Int) < (count : Int) := by omega
      have h9 : (b : Int) ≤ 9223372036854775807 := by omega
      clear hp hr hrow hbel
      by_cases k0 : k1 = 0
      · subst k0
        obtain ⟨_, hn2⟩ := readR_step hbs b q nx hst
        have Q := hid hst
        clear hst
        go_wp2_with fail
        refine (readr_good q nx ms b _ (h.below B0.out) rfl Q.out).mono ?_
        rintro e w1 ⟨y, s, z, t, rfl, hs1, hd1, hzt, b1, fr1, fz1⟩
        have R1 := R0.out.below b1
        have B1 := hid (grown_on B0.out b1)
        have hw1 : w.heap.size ≤ w1.heap.size := B1.out.size
        have hwr : wr.heap.size ≤ w1.heap.size := b1.size
        obtain ⟨L, hL, hown, hin⟩ := R1
        have FR : Hid (∀ a, y = some a → w.heap.size ≤ a.block ∧ (q.N = [] ∨ some a.block ≠ u11.ownBlock)) := hid (fun a e => by
          have f1 := fr1 a e
          refine ⟨Nat.le_trans B0.out.size f1, Or.inr fun e2 => ?_⟩
          obtain ⟨L0, _, o0, _⟩ := R0.out
          have := (World.ownsRow.lt o0 _ e2.symm).2
          omega)
        have FZ : Hid (∀ a, z = some a → w.heap.size ≤ a.block ∧ (q.D = [] ∨ some a.block ≠ u11.ownBlock)) := hid (fun a e => by
          have f1 := fz1 a e
          refine ⟨Nat.le_trans B0.out.size f1, Or.inr fun e2 => ?_⟩
          obtain ⟨L0, _, o0, _⟩ := R0.out
          have := (World.ownsRow.lt o0 _ e2.symm).2
          omega)
        have D1 := hid hd1
        have ZT := hid hzt
        have hLl : L.length = ys.length := by rw [← hL, List.length_map]
        have HL := hid hL
        have HIN := hid hin
        have S1 := hid hs1
        have hlm : (L.length + 1) * 72 ≤ 140737488355328 := by omega
        have hlm2 : L.length + 1 ≤ maxLen := by unfold maxLen; omega
        have HLL := hid hLl
        clear hL hin hs1 fr1 b1 hLl hd1 hzt fz1
        go_wp2_with (at_builtin; refine wpList_append_own_at _ rfl _ _ 26 rfl w.heap.size 67 i0 (.agg #[.slice none 0 0, .int .i64 0, .int .i64 0, .int .i64 0, .slice none 0 0]) 5 72 Tryd.underlying26 hi hz0 hz1 hz2 rfl (by decide) _ L.length (L.flatMap rcells) rfl ((hown.alloc _).alloc _) ⟨w1.heap.size + 1, 0, none⟩ 1 1 [.slice y q.N.length s, .int .i64 q.ty, .int .i64 q.cl, .int .i64 q.ttl, .slice z q.D.length t] rfl rfl (cells_new2 _ _ _ _) (by intro u hu; simp at hu; rcases hu with rfl | rfl | rfl | rfl | rfl <;> rfl) hlm2 hlm (by simp; omega) ?_)
        intro v1 w2 hown1 hgrow1 _ hloc
        have BA : Below w1.heap.size w1 ((w1.alloc (.cells #[.slice y q.N.length s, .int .i64 q.ty, .int .i64 q.cl, .int .i64 q.ttl, .slice z q.D.length t] 67)).alloc (.cells #[.slice y q.N.length s, .int .i64 q.ty, .int .i64 q.cl, .int .i64 q.ttl, .slice z q.D.length t] 67)) := ((Below.refl _ w1).alloc (Nat.le_refl _) _).alloc (by simp) _
        have row2 := hid (RRow.snoc (r := q) (y := y) (s := s) (z := z) (t := t) (fun e he => ⟨⟨(HIN.out e he).1.1.below BA, (HIN.out e he).1.2⟩, (HIN.out e he).2.1.below BA, (HIN.out e he).2.2⟩) (S1.out.below BA) FR.out (D1.out.below BA) ZT.out FZ.out hown1 hgrow1 (by simpa using hloc))
        have bel2 := hid (grown_below' ((hown.alloc _).alloc _) (grown_on B1.out BA) (by simp; omega) hgrow1)
        clear hown1 hgrow1 hloc BA hown
        go_wp2_with fail
        exact ⟨⟨ys ++ [q], nx, by rw [List.length_append]; simp; omega, parts_snoc P.out Q.out, hn2, by rw [← HL.out]; exact row2.out, rfl, by rw [List.length_append]; go_num, bel2.out⟩, by simp [intOf]; omega⟩
      · have K := hid k0
        have Q : Hid ((readR ms b).1 = k1) := hid (by rw [hst])
        have E : Hid (k = k1 ∧ rs = [] ∧ n = 0) := hid (by
          have := parts_err k0 P.out c1 (by rw [hst] : (readR ms b).1 = k1)
          rw [HR.out] at this
          cases this
          exact ⟨rfl, rfl, rfl⟩)
        clear hst k0
        go_wp2_with fail
        refine (readr_bad k1 ms b _ (h.below B0.out) rfl h9 Q.out K.out).mono ?_
        rintro e w1 ⟨rfl, b1⟩
        have B1 := hid (grown_on B0.out b1)
        clear b1
        go_wp2_with fail
        go_ret3
        obtain ⟨rfl, rfl, rfl⟩ := E.out
        exact ⟨none, 0, by rw [errV_some K.out]; rfl, Rs.nil _ _ none 0, B1.out.alloc B1.out.size _⟩
    · have c2 : ¬ (ys.length : Int) < (count : Int) := by omega
      have E : Hid (k = 0 ∧ rs = ys ∧ n = b) := hid (by
        have := parts_of hp
        have e : ys.length = count := by omega
        rw [e, hr] at this
        cases this
        exact ⟨rfl, rfl, rfl⟩)
      obtain ⟨y, s, rfl, hq⟩ := hrow.open (by omega)
      clear hr hp
      go_wp2_with fail
      go_ret3
      obtain ⟨rfl, rfl, rfl⟩ := E.out
      exact ⟨y, s, rfl, hq, hbel⟩

end Go.Proofs.YtbbgabdiikdjpaaDoor
