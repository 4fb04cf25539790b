/-
  The walk of Read of package rr: the record at a place, in new memory; nothing that was there is written.
-/
import Derived.Test.YtbbgabdiikdjpaaDoorRrFind
import Derived.Deep.RegionHeld3
namespace Go.Proofs.YtbbgabdiikdjpaaDoor
open Go.RowKit Go.Deep

/-- A record without anything. -/
def rec0 : Array Value := #[.slice none 0 0, .int .i64 0, .int .i64 0, .int .i64 0, .slice none 0 0]

def RecAt (L : List (List Int)) (ty cl ttl : Int) (D : List Int) (b : Int) (w : World) (e : Ending) (w' : World) : Prop :=
  ∃ y q z r, e = .returned (.tuple #[.agg #[.slice y L.length q, .int .i64 ty, .int .i64 cl, .int .i64 ttl, .slice z D.length r], .int .i64 b, .nilIface]) ∧ Strs w' y q (L.map strOfNums) ∧ Bys w' z r D ∧ (z = none → r = 0) ∧ Below w.heap.size w w' ∧ (∀ a, y = some a → w.heap.size ≤ a.block) ∧ ∀ a, z = some a → w.heap.size ≤ a.block

theorem Bl.put5 {t : TypeId} {w : World} {b : Nat} {a0 a1 a2 a3 a4 : Value} (h : Bl t w b #[a0, a1, a2, a3, a4]) (v0 v1 v2 v3 v4 : Value) :
    Bl t (((((w.setCell ⟨b, 0, none⟩ v0).setCell ⟨b, 1, none⟩ v1).setCell ⟨b, 2, none⟩ v2).setCell ⟨b, 3, none⟩ v3).setCell ⟨b, 4, none⟩ v4) b #[v0, v1, v2, v3, v4] :=
  ((((h.set 0 v0).set 1 v1).set 2 v2).set 3 v3).set 4 v4

theorem Bl.far5 {t : TypeId} {w : World} {b g : Nat} {C : Array Value} (h : Bl t w b C) (hg : ¬ b = g) (v0 v1 v2 v3 v4 : Value) :
    Bl t (((((w.setCell ⟨g, 0, none⟩ v0).setCell ⟨g, 1, none⟩ v1).setCell ⟨g, 2, none⟩ v2).setCell ⟨g, 3, none⟩ v3).setCell ⟨g, 4, none⟩ v4) b C :=
  ((((h.far hg v0).far hg v1).far hg v2).far hg v3).far hg v4

theorem below_put5 {B : Nat} {w w' : World} {b : Nat} (k : Below B w w') (hb : B ≤ b) (v0 v1 v2 v3 v4 : Value) :
    Below B w (((((w'.setCell ⟨b, 0, none⟩ v0).setCell ⟨b, 1, none⟩ v1).setCell ⟨b, 2, none⟩ v2).setCell ⟨b, 3, none⟩ v3).setCell ⟨b, 4, none⟩ v4) :=
  ((((k.setCell hb v0).setCell hb v1).setCell hb v2).setCell hb v3).setCell hb v4

theorem results_rread (tmps : Array Value) (w : World) (b : Nat) (v0 v1 v2 v3 v4 : Value) (hp : tmps.getD 4 undef = .pointer (some ⟨b, 0, none⟩)) (hb : Bl 67 w b #[v0, v1, v2, v3, v4]) :
    (results Tryd.f31 tmps).run Tryd.prog w = .ok (.tuple #[.agg #[v0, v1, v2, v3, v4], tmps.getD 5 undef, tmps.getD 6 undef]) w := by
  have c0 : w.cell? ⟨b, 0, none⟩ = some v0 := hb.cell (i := 0) rfl
  have c1 : w.cell? ⟨b, 1, none⟩ = some v1 := hb.cell (i := 1) rfl
  have c2 : w.cell? ⟨b, 2, none⟩ = some v2 := hb.cell (i := 2) rfl
  have c3 : w.cell? ⟨b, 3, none⟩ = some v3 := hb.cell (i := 3) rfl
  have c4 : w.cell? ⟨b, 4, none⟩ = some v4 := hb.cell (i := 4) rfl
  have hp' : tmps[4]?.getD undef = .pointer (some ⟨b, 0, none⟩) := by simpa using hp
  simp [results, Tryd.results31, go_sem, hp', c0, c1, c2, c3, c4]

set_option maxHeartbeats 1000000 in
set_option maxRecDepth 100000 in
theorem rread_no {x : Option Addr} {c l : Nat} (k : Int) (ms : List Int) (at0 : Int) (w : World) (h : Bys w x c ms) (hl : ms.length = l) (h9 : at0 ≤ 9223372036854775807) (hr : (recW ms at0).1 = k) (hk : ¬ k = 0) :
    Calls Tryd.prog 31 #[.slice x l c, .int .i64 at0] w fun e w' => e = .returned (.tuple #[.agg rec0, .int .i64 0, .iface 29 (.int .i64 k)]) ∧ Below w.heap.size w w' := by
  obtain ⟨s, hs⟩ : ∃ s, recW ms at0 = s := ⟨_, rfl⟩
  obtain ⟨k', L, n, b⟩ := s
  rw [hs] at hr
  simp only at hr
  subst hr
  obtain ⟨rfl, rfl, rfl⟩ := recW_norm hs hk
  have RD := hid hs
  have K := hid hk
  clear hs hk
  go_enter Tryd.func31, Tryd.ntmps31
  go_wp2_with fail
  have B0 : Below w.heap.size w _ := (Below.refl _ w).alloc (Nat.le_refl _) (.cells rec0 67)
  have K0 := Bl.new 67 w rec0
  refine (find_at k' [] 0 0 ms at0 _ (h.below B0) hl h9 RD.out).mono fun e w1 hp => ?_
  obtain ⟨y, q, he, _, b1, _⟩ := hp
  rw [errV_some K.out] at he
  subst he
  have B1 := grown_on B0 b1
  have K1 := K0.below b1
  have z0 := K1.frozen 0
  have z1 := K1.frozen 1
  have z2 := K1.frozen 2
  have z3 := K1.frozen 3
  have z4 := K1.frozen 4
  have c0 := K1.cell (i := 0) rfl
  have c1 := K1.cell (i := 1) rfl
  have c2 := K1.cell (i := 2) rfl
  have c3 := K1.cell (i := 3) rfl
  have c4 := K1.cell (i := 4) rfl
  clear b1 K0
  have B2 := hid B1
  have K2 := hid K1
  clear B0 B1 K1
  go_wp2_with fail
  refine bodyPost_ret (results_rread _ _ w.heap.size _ _ _ _ _ rfl (K2.out.put5 _ _ _ _ _)) rfl ?_
  exact ⟨rfl, below_put5 B2.out (Nat.le_refl _) _ _ _ _ _⟩

theorem Strs.far {w : World} {x : Option Addr} {c : Nat} {ss : List ByteArray} (h : Strs w x c ss) {p : Addr} (hp : ∀ a, x = some a → ¬ a.block = p.block) (v : Value) : Strs (w.setCell p v) x c ss := by
  obtain ⟨h1, h2, h3, h4⟩ := h
  refine ⟨h1, h2, h3, ?_⟩
  rcases h4 with h4 | ⟨b, off, hx, hb, hc⟩
  · exact Or.inl h4
  · refine Or.inr ⟨b, off, hx, by simpa [World.setCell] using hb, fun i hi => ?_⟩
    rw [← hc i hi]
    have := Below.heap_setCell w p v b (hp _ hx)
    simp only [World.cell?, this]

theorem Bys.far {w : World} {x : Option Addr} {c : Nat} {ms : List Int} (h : Bys w x c ms) {p : Addr} (hp : ∀ a, x = some a → ¬ a.block = p.block) (v : Value) : Bys (w.setCell p v) x c ms := by
  obtain ⟨h1, h2, h3, h4⟩ := h
  refine ⟨h1, h2, h3, ?_⟩
  rcases h4 with h4 | ⟨b, off, hx, hb, hc⟩
  · exact Or.inl h4
  · refine Or.inr ⟨b, off, hx, by simpa [World.setCell] using hb, fun i hi => ?_⟩
    rw [← hc i hi]
    have := Below.heap_setCell w p v b (hp _ hx)
    simp only [World.cell?, this]

theorem Strs.far5 {w : World} {x : Option Addr} {c : Nat} {ss : List ByteArray} (h : Strs w x c ss) {g : Nat} (hp : ∀ a, x = some a → ¬ a.block = g) (v0 v1 v2 v3 v4 : Value) :
    Strs (((((w.setCell ⟨g, 0, none⟩ v0).setCell ⟨g, 1, none⟩ v1).setCell ⟨g, 2, none⟩ v2).setCell ⟨g, 3, none⟩ v3).setCell ⟨g, 4, none⟩ v4) x c ss :=
  ((((h.far hp v0).far hp v1).far hp v2).far hp v3).far hp v4

theorem Bys.far5 {w : World} {x : Option Addr} {c : Nat} {ms : List Int} (h : Bys w x c ms) {g : Nat} (hp : ∀ a, x = some a → ¬ a.block = g) (v0 v1 v2 v3 v4 : Value) :
    Bys (((((w.setCell ⟨g, 0, none⟩ v0).setCell ⟨g, 1, none⟩ v1).setCell ⟨g, 2, none⟩ v2).setCell ⟨g, 3, none⟩ v3).setCell ⟨g, 4, none⟩ v4) x c ms :=
  ((((h.far hp v0).far hp v1).far hp v2).far hp v3).far hp v4

/-- A row of bytes that the call owns is a slice of its own memory. -/
theorem rowb_new {w : World} {B : Nat} {v : Value} {xs : List Int} (h : Rowb w B v xs) (hl : xs.length ≤ 200000000000000) (hb : ∀ b ∈ xs, 0 ≤ b ∧ b ≤ 255) :
    ∃ x c, v = .slice x xs.length c ∧ Bys w x c xs ∧ (x = none → c = 0) ∧ ∀ p, x = some p → B ≤ p.block := by
  have h0 := h
  rcases h.2 with ⟨rfl, h4⟩ | ⟨g, cap, cur, rfl, hg, _⟩
  · have : xs = [] := List.length_eq_zero_iff.1 h4
    subst this
    exact ⟨none, 0, rfl, Bys.nil w none 0, fun _ => rfl, fun p q => by cases q⟩
  · obtain ⟨x, c, e, hs⟩ := rowb_bys h0 hl hb
    cases e
    exact ⟨_, _, rfl, hs, (fun q => by cases q), fun p q => by cases q; exact hg⟩

/-- A copy of some bytes, made by an append to nothing, as a step of a region that draws. -/
theorem step_append_copy {w : World} {ops : Array Oper} {o : Oper} {a : Act} {K : Act → World → Prop} {Q : Exit → Act → World → Prop} {E : Prop} (hgd : o.guard = none) (x : Operand)
    (ho : o.op = .call { callee := .builtin .append, args := #[.const (.slice none 0 0), x], argTypes := #[22, 22] }) (ad : Addr) (m c : Nat) (D : List Int) (hm : D.length = m) (hx : a.eval x = .slice (some ad) m c)
    (hn : ∀ j u, (D.map (Value.int .u8))[j]? = some u → w.cell? (ad.add j) = some u) (hl : D.length ≤ 200000000000000) (hb : ∀ b ∈ D, 0 ≤ b ∧ b ≤ 255)
    (h : ∀ z r w', Bys w' z r D → (z = none → r = 0) → (∀ p, z = some p → w.heap.size ≤ p.block) → Below w.heap.size w w' → K (a.put o.dst (.slice z m r)) w') :
    if Region.wanted o (yielded ops a.tmps) = true then Oper.wp Tryd.prog o a w K Q else E := by
  have hw : Region.wanted o (yielded ops a.tmps) = true := by simp [Region.wanted, hgd]
  rw [if_pos hw]
  obtain ⟨i0, hi, hz0, hz1, hz2⟩ := info_of_byte
  subst hm
  obtain ⟨v', w', hr, hown, hgr, _⟩ := run_append_own_wide (P := Tryd.prog) w w.heap.size 22 o.type 5 i0 (.int .u8 0) 1 1 Tryd.underlying22 hi hz0 hz1 hz2 rfl (by decide) (.slice none 0 0) 0 [] (World.ownsRow_nil _ _ _ _) ad D.length c (D.map (Value.int .u8)) (by simp) hn (one_cells D) (by unfold maxLen; omega) (by omega) (Nat.le_refl _)
  have hbel := grown_below (World.ownsRow_nil w w.heap.size 5 1) (Below.refl _ w) (Nat.le_refl _) hgr
  obtain ⟨z, r, rfl, hs, hzr, hf⟩ := rowb_new (Rowb.of (xs := D) hown (by simp) (by simp)) hl hb
  unfold Oper.wp execOp
  simp only [ho, resolve, invoke, builtin, Sem.run_bind, Sem.run_pure, Result.andThen_ok, List.map_toArray, List.map_cons, List.map_nil, hx]
  have hc : a.eval (.const (.slice none 0 0)) = .slice none 0 0 := rfl
  rw [hc, hr]
  exact h z r w' hs hzr hf hbel

theorem cut_cut (ms : List Int) (a k i j : Nat) (h : i + j ≤ k) : Nm.cut (Nm.cut ms a k) i j = Nm.cut ms (a + i) j := by
  unfold Nm.cut
  rw [List.drop_take, List.drop_drop, List.take_take, Nat.min_eq_left (by omega)]

theorem rread_end {L : List (List Int)} {ty cl ttl b : Int} {D : List Int} {w u : World} {y z : Option Addr} {q r m : Nat} (hm : D.length = m) (h1 : Strs u y q (L.map strOfNums)) (h2 : Bys u z r D) (h3 : z = none → r = 0) (h4 : Below w.heap.size w u)
    (h5 : ∀ a, y = some a → w.heap.size + 1 ≤ a.block) (h6 : ∀ a, z = some a → w.heap.size + 1 ≤ a.block) (v0 v1 v2 v3 v4 : Value) : RecAt L ty cl ttl D b w (.returned (.tuple #[.agg #[.slice y L.length q, .int .i64 ty, .int .i64 cl, .int .i64 ttl, .slice z m r], .int .i64 b, .nilIface]))
      (((((u.setCell ⟨w.heap.size, 0, none⟩ v0).setCell ⟨w.heap.size, 1, none⟩ v1).setCell ⟨w.heap.size, 2, none⟩ v2).setCell ⟨w.heap.size, 3, none⟩ v3).setCell ⟨w.heap.size, 4, none⟩ v4) := by
  subst hm
  exact ⟨y, q, z, r, rfl, h1.far5 (fun a e => by have := h5 a e; omega) _ _ _ _ _, h2.far5 (fun a e => by have := h6 a e; omega) _ _ _ _ _, h3, below_put5 h4 (Nat.le_refl _) _ _ _ _ _, fun a e => by have := h5 a e; omega, fun a e => by have := h6 a e; omega⟩

set_option maxHeartbeats 4000000 in
set_option maxRecDepth 100000 in
theorem rread_good {x : Option Addr} {c l : Nat} (L : List (List Int)) (n d : Nat) (ms D : List Int) (ty cl ttl at0 : Int) (w : World) (h : Bys w x c ms) (hl : ms.length = l) (h9 : at0 ≤ 9223372036854775807) (hr : recW ms at0 = (0, L, n, n + 10 + d))
    (h1 : numN (Nm.cut ms n 2) = ty) (h2 : numN (Nm.cut ms (n + 2) 2) = cl) (h3 : numN (Nm.cut ms (n + 4) 4) = ttl) (h4 : Nm.cut ms (n + 10) d = D) :
    Calls Tryd.prog 31 #[.slice x l c, .int .i64 at0] w (RecAt L ty cl ttl D ((n : Int) + 10 + (d : Int)) w) := by
  subst hl
  have hlen : ms.length ≤ 200000000000000 := h.2.1
  have hcap : ms.length ≤ c := h.1
  have hbs := h.2.2.1
  obtain ⟨_, _, hn⟩ := recW_ok hr
  obtain ⟨bk, off, rfl, hlt, q⟩ : ∃ b off, x = some ⟨b, off, none⟩ ∧ b < w.heap.size ∧ ∀ i, i < ms.length → w.cell? ⟨b, off + i, none⟩ = some (.int .u8 (ms.getD i 0)) := by
    rcases h.2.2.2 with hd | hd
    · rw [hd] at hn; simp at hn
    · exact hd
  have RD := hid hr
  have DL : Hid (D.length = d) := hid (by rw [← h4]; exact Nm.cut_length (by omega))
  have hd2 : d ≤ 200000000000000 := by omega
  have P1 := hid (bys_sub hlt hcap hlen hbs q n 2 (by omega))
  have P2 := hid (bys_sub hlt hcap hlen hbs q (n + 2) 2 (by omega))
  have P3 := hid (bys_sub hlt hcap hlen hbs q (n + 4) 4 (by omega))
  have P4 := hid (bys_sub hlt hcap hlen hbs q (n + 10) d (by omega))
  have L1 := hid (Nm.cut_length (ms := ms) (a := n) (k := 2) (by omega))
  have L2 := hid (Nm.cut_length (ms := ms) (a := n + 2) (k := 2) (by omega))
  have L3 := hid (Nm.cut_length (ms := ms) (a := n + 4) (k := 4) (by omega))
  rw [h4] at P4
  have N1 := hid h1
  have N2 := hid h2
  have N3 := hid h3
  generalize Nm.cut ms n 2 = l1 at *
  generalize Nm.cut ms (n + 2) 2 = l2 at *
  generalize Nm.cut ms (n + 4) 4 = l3 at *
  clear hr h1 h2 h3 h4 q
  have hne : ¬ c = n := by omega
  have i1 : (n : Int) + 10 + (d : Int) ≤ (c : Int) := by omega
  have i2 : ((n + 10 + d : Nat) : Int) = (n : Int) + 10 + (d : Int) := by omega
  go_enter Tryd.func31, Tryd.ntmps31
  go_wp2_with fail
  have B0 : Below w.heap.size w _ := (Below.refl _ w).alloc (Nat.le_refl _) (.cells rec0 67)
  have K0 := Bl.new 67 w rec0
  refine (find_at 0 L n (n + 10 + d) ms at0 _ (h.below B0) rfl h9 RD.out).mono fun e w1 hp => ?_
  obtain ⟨y, qq, he, hst, b1, fr⟩ := hp
  have he2 : e = .returned (.tuple #[.slice y L.length qq, .int .i64 (n : Int), .int .i64 ((n : Int) + 10 + (d : Int)), .nilIface]) := by rw [he, i2]; rfl
  subst he2
  have B1 := grown_on B0 b1
  have K1 := K0.below b1
  have hw1 : w.heap.size < w1.heap.size := K1.lt
  have FR : Hid (∀ a, y = some a → w.heap.size + 1 ≤ a.block) := hid (fun a q => by have := fr a q; simpa using this)
  clear b1 K0 B0 he fr
  have B2 := hid B1
  have K2 := hid K1
  have ST := hid hst
  clear B1 K1 hst
  go_wp2_with fail
  have e1 : n + 10 + d - n = 10 + d := by omega
  rw [e1]
  have e2 : c - (n + 2) = c - n - 2 := by omega
  have e3 : c - (n + 4) = c - n - 4 := by omega
  have e4 : c - (n + 10) = c - n - 10 := by omega
  rw [e2, ← Nat.add_assoc] at P2
  rw [e3, ← Nat.add_assoc] at P3
  rw [e4, ← Nat.add_assoc] at P4
  have hcc : 10 + d ≤ c - n := by omega
  clear e1 e2 e3 e4 i1 i2 hne hcap RD h
  generalize c - n = cc at *
  generalize off + n = oo at *
  have C1 : Hid (∀ u, Below w1.heap.size w1 u → Calls Tryd.prog 53 #[.slice (some ⟨bk, oo, none⟩) 2 cc] u fun e u' => e = .returned (.int .i64 ty) ∧ u = u') := hid (fun u hu => number_at ty l1 u ((P1.out.below B2.out).below hu) L1.out (by have := L1.out; omega) N1.out)
  have C2 : Hid (∀ u, Below w1.heap.size w1 u → Calls Tryd.prog 53 #[.slice (some ⟨bk, oo + 2, none⟩) 2 (cc - 2)] u fun e u' => e = .returned (.int .i64 cl) ∧ u = u') := hid (fun u hu => number_at cl l2 u ((P2.out.below B2.out).below hu) L2.out (by have := L2.out; omega) N2.out)
  have C3 : Hid (∀ u, Below w1.heap.size w1 u → Calls Tryd.prog 53 #[.slice (some ⟨bk, oo + 4, none⟩) 4 (cc - 4)] u fun e u' => e = .returned (.int .i64 ttl) ∧ u = u') := hid (fun u hu => number_at ttl l3 u ((P3.out.below B2.out).below hu) L3.out (by have := L3.out; omega) N3.out)
  obtain ⟨pl, hpl⟩ : ∃ pl, 10 + d = pl := ⟨_, rfl⟩
  have hpl2 : d = pl - 10 := by omega
  have j1 : (10 : Int) ≤ (pl : Int) := by omega
  have j2 : (pl : Int) ≤ (cc : Int) := by omega
  rw [hpl] at hcc
  rw [hpl]
  have HPL := hid hpl2
  clear hpl hpl2
  have j3 : ¬ cc = 2 := by omega
  have j4 : ¬ cc = 4 := by omega
  have j5 : (4 : Int) ≤ (cc : Int) := by omega
  have j6 : (8 : Int) ≤ (cc : Int) := by omega
  have j7 : (2 : Int) ≤ (cc : Int) := by omega
  by_cases c10 : cc = 10
  · have hpl : pl = 10 := by omega
    subst c10 hpl
    have D0 : Hid (D = []) := hid (List.length_eq_zero_iff.1 (by have := DL.out; have := HPL.out; omega))
    have hbD : ∀ b ∈ D, 0 ≤ b ∧ b ≤ 255 := P4.out.2.2.1
    have HB := hid hbD
    clear hbD
    have NW : Hid (∀ (u : World) (A : Addr), ∀ j v, (D.map (Value.int .u8))[j]? = some v → u.cell? (A.add j) = some v) := hid (fun u A => by rw [D0.out]; intro j v hv; simp at hv)
    go_region_held3 (fun u => Below w1.heap.size w1 u) (with_reducible (first | assumption | exact Below.drew (Below.refl _ _) | exact ((Below.refl _ _).alloc (Nat.le_refl _) _).drew | exact Below.alloc HB2 s2 _ | exact below_put5 HB2 (Nat.le_refl _) _ _ _ _ _))
      (first
        | (go_at_call_of 53 (@OfNat.ofNat Nat (nat_lit 10) (instOfNatNat (nat_lit 10))); refine (C1.out _ ?_).mono ?_; assumption; rintro e w' ⟨rfl, rfl⟩)
        | (go_at_call_of 53 (@OfNat.ofNat Nat (nat_lit 8) (instOfNatNat (nat_lit 8))); refine (C2.out _ ?_).mono ?_; assumption; rintro e w' ⟨rfl, rfl⟩)
        | (go_at_call_of 53 (@OfNat.ofNat Nat (nat_lit 6) (instOfNatNat (nat_lit 6))); refine (C3.out _ ?_).mono ?_; assumption; rintro e w' ⟨rfl, rfl⟩)
        | (refine step_append_copy rfl _ rfl ⟨bk, oo, none⟩ 0 0 D (by rw [D0.out]; rfl) rfl (NW.out _ _) (by rw [DL.out]; exact hd2) HB.out ?_; intro z r w2 hz hzr hfz hb2; have HB2 : Below w1.heap.size w1 w2 := grown_on (by assumption) hb2; have s2 := HB2.size; have K4 : Bl 67 w2 w.heap.size rec0 := K2.out.below HB2; have y0 : w2.frozen? ⟨w.heap.size, 0, none⟩ = false := K4.frozen 0; have y1 : w2.frozen? ⟨w.heap.size, 1, none⟩ = false := K4.frozen 1; have y2 : w2.frozen? ⟨w.heap.size, 2, none⟩ = false := K4.frozen 2; have y3 : w2.frozen? ⟨w.heap.size, 3, none⟩ = false := K4.frozen 3; have y4 : w2.frozen? ⟨w.heap.size, 4, none⟩ = false := K4.frozen 4; have yc0 : w2.cell? ⟨w.heap.size, 0, none⟩ = some (.slice none 0 0) := K4.cell (i := 0) rfl; have yc1 : w2.cell? ⟨w.heap.size, 1, none⟩ = some (.int .i64 0) := K4.cell (i := 1) rfl; have yc2 : w2.cell? ⟨w.heap.size, 2, none⟩ = some (.int .i64 0) := K4.cell (i := 2) rfl; have yc3 : w2.cell? ⟨w.heap.size, 3, none⟩ = some (.int .i64 0) := K4.cell (i := 3) rfl; have yc4 : w2.cell? ⟨w.heap.size, 4, none⟩ = some (.slice none 0 0) := K4.cell (i := 4) rfl; (try (have K3 : Bl 67 w2 w1.heap.size #[.slice none 0 0, .int .i64 0, .int .i64 0, .int .i64 0, .slice none 0 0] := (by with_reducible exact Bl.below (Bl.drew (Bl.new 67 w1 #[.slice none 0 0, .int .i64 0, .int .i64 0, .int .i64 0, .slice none 0 0])) hb2); have z0 : w2.frozen? ⟨w1.heap.size, 0, none⟩ = false := K3.frozen 0; have z1 : w2.frozen? ⟨w1.heap.size, 1, none⟩ = false := K3.frozen 1; have z2 : w2.frozen? ⟨w1.heap.size, 2, none⟩ = false := K3.frozen 2; have z3 : w2.frozen? ⟨w1.heap.size, 3, none⟩ = false := K3.frozen 3; have z4 : w2.frozen? ⟨w1.heap.size, 4, none⟩ = false := K3.frozen 4; have zc0 : w2.cell? ⟨w1.heap.size, 0, none⟩ = some (.slice none 0 0) := K3.cell (i := 0) rfl; have zc1 : w2.cell? ⟨w1.heap.size, 1, none⟩ = some (.int .i64 0) := K3.cell (i := 1) rfl; have zc2 : w2.cell? ⟨w1.heap.size, 2, none⟩ = some (.int .i64 0) := K3.cell (i := 2) rfl; have zc3 : w2.cell? ⟨w1.heap.size, 3, none⟩ = some (.int .i64 0) := K3.cell (i := 3) rfl; have zc4 : w2.cell? ⟨w1.heap.size, 4, none⟩ = some (.slice none 0 0) := K3.cell (i := 4) rfl; have s3 := K3.lt; have KK3 := hid K3; clear K3)); have KK4 := hid K4; have HZ := hid hz; have HZR := hid hzr; have HFZ := hid hfz; clear K4 hz hzr hfz hb2))
    · skip
      have KX : Bl 67 (w2.alloc (.cells #[.slice y L.length qq, .int .i64 ty, .int .i64 cl, .int .i64 ttl, .slice z 0 r] 67)) w2.heap.size #[.slice y L.length qq, .int .i64 ty, .int .i64 cl, .int .i64 ttl, .slice z 0 r] := Bl.new 67 w2 _
      have KR : Bl 67 (w2.alloc (.cells #[.slice y L.length qq, .int .i64 ty, .int .i64 cl, .int .i64 ttl, .slice z 0 r] 67)) w.heap.size rec0 := KK4.out.below ((Below.refl _ w2).alloc (Nat.le_refl _) _)
      have S3 : Strs (w2.alloc (.cells #[.slice y L.length qq, .int .i64 ty, .int .i64 cl, .int .i64 ttl, .slice z 0 r] 67)) y qq (L.map strOfNums) := (ST.out.below HB2).below ((Below.refl _ w2).alloc (Nat.le_refl _) _)
      have Z3 : Bys (w2.alloc (.cells #[.slice y L.length qq, .int .i64 ty, .int .i64 cl, .int .i64 ttl, .slice z 0 r] 67)) z r D := HZ.out.below ((Below.refl _ w2).alloc (Nat.le_refl _) _)
      have B3 : Below w.heap.size w (w2.alloc (.cells #[.slice y L.length qq, .int .i64 ty, .int .i64 cl, .int .i64 ttl, .slice z 0 r] 67)) := grown_on B2.out (by assumption)
      have F3 : ∀ a, z = some a → w.heap.size + 1 ≤ a.block := (fun a e => by have := HFZ.out a e; simp at this; omega)
      clear yc0 yc1 yc2 yc3 yc4 y0 y1 y2 y3 y4
      generalize (w2.alloc (.cells #[.slice y L.length qq, .int .i64 ty, .int .i64 cl, .int .i64 ttl, .slice z 0 r] 67)) = W3 at *
      have x0 : W3.cell? ⟨w2.heap.size, 0, none⟩ = some (.slice y L.length qq) := KX.cell (i := 0) rfl
      have x1 : W3.cell? ⟨w2.heap.size, 1, none⟩ = some (.int .i64 ty) := KX.cell (i := 1) rfl
      have x2 : W3.cell? ⟨w2.heap.size, 2, none⟩ = some (.int .i64 cl) := KX.cell (i := 2) rfl
      have x3 : W3.cell? ⟨w2.heap.size, 3, none⟩ = some (.int .i64 ttl) := KX.cell (i := 3) rfl
      have x4 : W3.cell? ⟨w2.heap.size, 4, none⟩ = some (.slice z 0 r) := KX.cell (i := 4) rfl
      have yc0 : W3.cell? ⟨w.heap.size, 0, none⟩ = some (.slice none 0 0) := KR.cell (i := 0) rfl
      have y0 := KR.frozen 0
      have yc1 : W3.cell? ⟨w.heap.size, 1, none⟩ = some (.int .i64 0) := KR.cell (i := 1) rfl
      have y1 := KR.frozen 1
      have yc2 : W3.cell? ⟨w.heap.size, 2, none⟩ = some (.int .i64 0) := KR.cell (i := 2) rfl
      have y2 := KR.frozen 2
      have yc3 : W3.cell? ⟨w.heap.size, 3, none⟩ = some (.int .i64 0) := KR.cell (i := 3) rfl
      have y3 := KR.frozen 3
      have yc4 : W3.cell? ⟨w.heap.size, 4, none⟩ = some (.slice none 0 0) := KR.cell (i := 4) rfl
      have y4 := KR.frozen 4
      have QR := hid KR
      have QS := hid S3
      have QZ := hid Z3
      have QB := hid B3
      have QF := hid F3
      clear KX KR S3 Z3 B3 F3
      go_wp2_with fail
      refine bodyPost_ret (results_rread _ _ w.heap.size _ _ _ _ _ rfl (QR.out.put5 _ _ _ _ _)) rfl ?_
      exact rread_end (by rw [D0.out]; rfl) QS.out QZ.out HZR.out QB.out FR.out QF.out _ _ _ _ _
    all_goals
      have KX : Bl 67 (((((w2.setCell ⟨w1.heap.size, 0, none⟩ (.slice y L.length qq)).setCell ⟨w1.heap.size, 1, none⟩ (.int .i64 ty)).setCell ⟨w1.heap.size, 2, none⟩ (.int .i64 cl)).setCell ⟨w1.heap.size, 3, none⟩ (.int .i64 ttl)).setCell ⟨w1.heap.size, 4, none⟩ (.slice z 0 r)) w1.heap.size #[.slice y L.length qq, .int .i64 ty, .int .i64 cl, .int .i64 ttl, .slice z 0 r] := KK3.out.put5 _ _ _ _ _
      have KR : Bl 67 (((((w2.setCell ⟨w1.heap.size, 0, none⟩ (.slice y L.length qq)).setCell ⟨w1.heap.size, 1, none⟩ (.int .i64 ty)).setCell ⟨w1.heap.size, 2, none⟩ (.int .i64 cl)).setCell ⟨w1.heap.size, 3, none⟩ (.int .i64 ttl)).setCell ⟨w1.heap.size, 4, none⟩ (.slice z 0 r)) w.heap.size rec0 := KK4.out.far5 (by omega) _ _ _ _ _
      have S3 : Strs (((((w2.setCell ⟨w1.heap.size, 0, none⟩ (.slice y L.length qq)).setCell ⟨w1.heap.size, 1, none⟩ (.int .i64 ty)).setCell ⟨w1.heap.size, 2, none⟩ (.int .i64 cl)).setCell ⟨w1.heap.size, 3, none⟩ (.int .i64 ttl)).setCell ⟨w1.heap.size, 4, none⟩ (.slice z 0 r)) y qq (L.map strOfNums) := ST.out.below (by assumption)
      have Z3 : Bys (((((w2.setCell ⟨w1.heap.size, 0, none⟩ (.slice y L.length qq)).setCell ⟨w1.heap.size, 1, none⟩ (.int .i64 ty)).setCell ⟨w1.heap.size, 2, none⟩ (.int .i64 cl)).setCell ⟨w1.heap.size, 3, none⟩ (.int .i64 ttl)).setCell ⟨w1.heap.size, 4, none⟩ (.slice z 0 r)) z r D := HZ.out.far5 (fun a e => by have := HFZ.out a e; simp at this; omega) _ _ _ _ _
      have B3 : Below w.heap.size w (((((w2.setCell ⟨w1.heap.size, 0, none⟩ (.slice y L.length qq)).setCell ⟨w1.heap.size, 1, none⟩ (.int .i64 ty)).setCell ⟨w1.heap.size, 2, none⟩ (.int .i64 cl)).setCell ⟨w1.heap.size, 3, none⟩ (.int .i64 ttl)).setCell ⟨w1.heap.size, 4, none⟩ (.slice z 0 r)) := grown_on B2.out (by assumption)
      have F3 : ∀ a, z = some a → w.heap.size + 1 ≤ a.block := (fun a e => by have := HFZ.out a e; simp at this; omega)
      clear yc0 yc1 yc2 yc3 yc4 y0 y1 y2 y3 y4
      generalize (((((w2.setCell ⟨w1.heap.size, 0, none⟩ (.slice y L.length qq)).setCell ⟨w1.heap.size, 1, none⟩ (.int .i64 ty)).setCell ⟨w1.heap.size, 2, none⟩ (.int .i64 cl)).setCell ⟨w1.heap.size, 3, none⟩ (.int .i64 ttl)).setCell ⟨w1.heap.size, 4, none⟩ (.slice z 0 r)) = W3 at *
      have x0 : W3.cell? ⟨w1.heap.size, 0, none⟩ = some (.slice y L.length qq) := KX.cell (i := 0) rfl
      have x1 : W3.cell? ⟨w1.heap.size, 1, none⟩ = some (.int .i64 ty) := KX.cell (i := 1) rfl
      have x2 : W3.cell? ⟨w1.heap.size, 2, none⟩ = some (.int .i64 cl) := KX.cell (i := 2) rfl
      have x3 : W3.cell? ⟨w1.heap.size, 3, none⟩ = some (.int .i64 ttl) := KX.cell (i := 3) rfl
      have x4 : W3.cell? ⟨w1.heap.size, 4, none⟩ = some (.slice z 0 r) := KX.cell (i := 4) rfl
      have yc0 : W3.cell? ⟨w.heap.size, 0, none⟩ = some (.slice none 0 0) := KR.cell (i := 0) rfl
      have y0 := KR.frozen 0
      have yc1 : W3.cell? ⟨w.heap.size, 1, none⟩ = some (.int .i64 0) := KR.cell (i := 1) rfl
      have y1 := KR.frozen 1
      have yc2 : W3.cell? ⟨w.heap.size, 2, none⟩ = some (.int .i64 0) := KR.cell (i := 2) rfl
      have y2 := KR.frozen 2
      have yc3 : W3.cell? ⟨w.heap.size, 3, none⟩ = some (.int .i64 0) := KR.cell (i := 3) rfl
      have y3 := KR.frozen 3
      have yc4 : W3.cell? ⟨w.heap.size, 4, none⟩ = some (.slice none 0 0) := KR.cell (i := 4) rfl
      have y4 := KR.frozen 4
      have QR := hid KR
      have QS := hid S3
      have QZ := hid Z3
      have QB := hid B3
      have QF := hid F3
      clear KX KR S3 Z3 B3 F3
      go_wp2_with fail
      refine bodyPost_ret (results_rread _ _ w.heap.size _ _ _ _ _ rfl (QR.out.put5 _ _ _ _ _)) rfl ?_
      exact rread_end (by rw [D0.out]; rfl) QS.out QZ.out HZR.out QB.out FR.out QF.out _ _ _ _ _

  · have hbD : ∀ b ∈ D, 0 ≤ b ∧ b ≤ 255 := P4.out.2.2.1
    have HB := hid hbD
    clear hbD
    have NW : Hid (∀ u, Below w1.heap.size w1 u → ∀ j v, (D.map (Value.int .u8))[j]? = some v → u.cell? ((⟨bk, oo + 10, none⟩ : Addr).add j) = some v) := hid (fun u hu => by
      have s := (P4.out.below B2.out).below hu
      rcases s.2.2.2 with hd | ⟨b', o', e, _, q⟩
      · rw [hd]; intro j v hv; simp at hv
      · cases e; exact bys_news q)
    go_region_held3 (fun u => Below w1.heap.size w1 u) (with_reducible (first | assumption | exact Below.drew (Below.refl _ _) | exact ((Below.refl _ _).alloc (Nat.le_refl _) _).drew | exact Below.alloc HB2 s2 _ | exact below_put5 HB2 (Nat.le_refl _) _ _ _ _ _))
      (first
        | (go_at_call_of 53 (Value.slice (some ⟨bk, oo, none⟩) 2 cc); refine (C1.out _ ?_).mono ?_; assumption; rintro e w' ⟨rfl, rfl⟩)
        | (go_at_call_of 53 (@HSub.hSub Nat Nat Nat (@instHSub Nat instSubNat) cc (@OfNat.ofNat Nat (nat_lit 2) (instOfNatNat (nat_lit 2)))); refine (C2.out _ ?_).mono ?_; assumption; rintro e w' ⟨rfl, rfl⟩)
        | (go_at_call_of 53 (@HSub.hSub Nat Nat Nat (@instHSub Nat instSubNat) cc (@OfNat.ofNat Nat (nat_lit 4) (instOfNatNat (nat_lit 4)))); refine (C3.out _ ?_).mono ?_; assumption; rintro e w' ⟨rfl, rfl⟩)
        | (refine step_append_copy rfl _ rfl ⟨bk, oo + 10, none⟩ (pl - 10) (cc - 10) D (by rw [DL.out]; exact HPL.out) rfl (NW.out _ (by assumption)) (by rw [DL.out]; exact hd2) HB.out ?_; intro z r w2 hz hzr hfz hb2; have HB2 : Below w1.heap.size w1 w2 := grown_on (by assumption) hb2; have s2 := HB2.size; have K4 : Bl 67 w2 w.heap.size rec0 := K2.out.below HB2; have y0 : w2.frozen? ⟨w.heap.size, 0, none⟩ = false := K4.frozen 0; have y1 : w2.frozen? ⟨w.heap.size, 1, none⟩ = false := K4.frozen 1; have y2 : w2.frozen? ⟨w.heap.size, 2, none⟩ = false := K4.frozen 2; have y3 : w2.frozen? ⟨w.heap.size, 3, none⟩ = false := K4.frozen 3; have y4 : w2.frozen? ⟨w.heap.size, 4, none⟩ = false := K4.frozen 4; have yc0 : w2.cell? ⟨w.heap.size, 0, none⟩ = some (.slice none 0 0) := K4.cell (i := 0) rfl; have yc1 : w2.cell? ⟨w.heap.size, 1, none⟩ = some (.int .i64 0) := K4.cell (i := 1) rfl; have yc2 : w2.cell? ⟨w.heap.size, 2, none⟩ = some (.int .i64 0) := K4.cell (i := 2) rfl; have yc3 : w2.cell? ⟨w.heap.size, 3, none⟩ = some (.int .i64 0) := K4.cell (i := 3) rfl; have yc4 : w2.cell? ⟨w.heap.size, 4, none⟩ = some (.slice none 0 0) := K4.cell (i := 4) rfl; (try (have K3 : Bl 67 w2 w1.heap.size #[.slice none 0 0, .int .i64 0, .int .i64 0, .int .i64 0, .slice none 0 0] := (by with_reducible exact Bl.below (Bl.drew (Bl.new 67 w1 #[.slice none 0 0, .int .i64 0, .int .i64 0, .int .i64 0, .slice none 0 0])) hb2); have z0 : w2.frozen? ⟨w1.heap.size, 0, none⟩ = false := K3.frozen 0; have z1 : w2.frozen? ⟨w1.heap.size, 1, none⟩ = false := K3.frozen 1; have z2 : w2.frozen? ⟨w1.heap.size, 2, none⟩ = false := K3.frozen 2; have z3 : w2.frozen? ⟨w1.heap.size, 3, none⟩ = false := K3.frozen 3; have z4 : w2.frozen? ⟨w1.heap.size, 4, none⟩ = false := K3.frozen 4; have zc0 : w2.cell? ⟨w1.heap.size, 0, none⟩ = some (.slice none 0 0) := K3.cell (i := 0) rfl; have zc1 : w2.cell? ⟨w1.heap.size, 1, none⟩ = some (.int .i64 0) := K3.cell (i := 1) rfl; have zc2 : w2.cell? ⟨w1.heap.size, 2, none⟩ = some (.int .i64 0) := K3.cell (i := 2) rfl; have zc3 : w2.cell? ⟨w1.heap.size, 3, none⟩ = some (.int .i64 0) := K3.cell (i := 3) rfl; have zc4 : w2.cell? ⟨w1.heap.size, 4, none⟩ = some (.slice none 0 0) := K3.cell (i := 4) rfl; have s3 := K3.lt; have KK3 := hid K3; clear K3)); have KK4 := hid K4; have HZ := hid hz; have HZR := hid hzr; have HFZ := hid hfz; clear K4 hz hzr hfz hb2))
    · skip
      have KX : Bl 67 (w2.alloc (.cells #[.slice y L.length qq, .int .i64 ty, .int .i64 cl, .int .i64 ttl, .slice z (pl - 10) r] 67)) w2.heap.size #[.slice y L.length qq, .int .i64 ty, .int .i64 cl, .int .i64 ttl, .slice z (pl - 10) r] := Bl.new 67 w2 _
      have KR : Bl 67 (w2.alloc (.cells #[.slice y L.length qq, .int .i64 ty, .int .i64 cl, .int .i64 ttl, .slice z (pl - 10) r] 67)) w.heap.size rec0 := KK4.out.below ((Below.refl _ w2).alloc (Nat.le_refl _) _)
      have S3 : Strs (w2.alloc (.cells #[.slice y L.length qq, .int .i64 ty, .int .i64 cl, .int .i64 ttl, .slice z (pl - 10) r] 67)) y qq (L.map strOfNums) := (ST.out.below HB2).below ((Below.refl _ w2).alloc (Nat.le_refl _) _)
      have Z3 : Bys (w2.alloc (.cells #[.slice y L.length qq, .int .i64 ty, .int .i64 cl, .int .i64 ttl, .slice z (pl - 10) r] 67)) z r D := HZ.out.below ((Below.refl _ w2).alloc (Nat.le_refl _) _)
      have B3 : Below w.heap.size w (w2.alloc (.cells #[.slice y L.length qq, .int .i64 ty, .int .i64 cl, .int .i64 ttl, .slice z (pl - 10) r] 67)) := grown_on B2.out (by assumption)
      have F3 : ∀ a, z = some a → w.heap.size + 1 ≤ a.block := (fun a e => by have := HFZ.out a e; simp at this; omega)
      clear yc0 yc1 yc2 yc3 yc4 y0 y1 y2 y3 y4
      generalize (w2.alloc (.cells #[.slice y L.length qq, .int .i64 ty, .int .i64 cl, .int .i64 ttl, .slice z (pl - 10) r] 67)) = W3 at *
      have x0 : W3.cell? ⟨w2.heap.size, 0, none⟩ = some (.slice y L.length qq) := KX.cell (i := 0) rfl
      have x1 : W3.cell? ⟨w2.heap.size, 1, none⟩ = some (.int .i64 ty) := KX.cell (i := 1) rfl
      have x2 : W3.cell? ⟨w2.heap.size, 2, none⟩ = some (.int .i64 cl) := KX.cell (i := 2) rfl
      have x3 : W3.cell? ⟨w2.heap.size, 3, none⟩ = some (.int .i64 ttl) := KX.cell (i := 3) rfl
      have x4 : W3.cell? ⟨w2.heap.size, 4, none⟩ = some (.slice z (pl - 10) r) := KX.cell (i := 4) rfl
      have yc0 : W3.cell? ⟨w.heap.size, 0, none⟩ = some (.slice none 0 0) := KR.cell (i := 0) rfl
      have y0 := KR.frozen 0
      have yc1 : W3.cell? ⟨w.heap.size, 1, none⟩ = some (.int .i64 0) := KR.cell (i := 1) rfl
      have y1 := KR.frozen 1
      have yc2 : W3.cell? ⟨w.heap.size, 2, none⟩ = some (.int .i64 0) := KR.cell (i := 2) rfl
      have y2 := KR.frozen 2
      have yc3 : W3.cell? ⟨w.heap.size, 3, none⟩ = some (.int .i64 0) := KR.cell (i := 3) rfl
      have y3 := KR.frozen 3
      have yc4 : W3.cell? ⟨w.heap.size, 4, none⟩ = some (.slice none 0 0) := KR.cell (i := 4) rfl
      have y4 := KR.frozen 4
      have QR := hid KR
      have QS := hid S3
      have QZ := hid Z3
      have QB := hid B3
      have QF := hid F3
      clear KX KR S3 Z3 B3 F3
      go_wp2_with fail
      refine bodyPost_ret (results_rread _ _ w.heap.size _ _ _ _ _ rfl (QR.out.put5 _ _ _ _ _)) rfl ?_
      exact rread_end (by rw [DL.out]; exact HPL.out) QS.out QZ.out HZR.out QB.out FR.out QF.out _ _ _ _ _
    all_goals
      have KX : Bl 67 (((((w2.setCell ⟨w1.heap.size, 0, none⟩ (.slice y L.length qq)).setCell ⟨w1.heap.size, 1, none⟩ (.int .i64 ty)).setCell ⟨w1.heap.size, 2, none⟩ (.int .i64 cl)).setCell ⟨w1.heap.size, 3, none⟩ (.int .i64 ttl)).setCell ⟨w1.heap.size, 4, none⟩ (.slice z (pl - 10) r)) w1.heap.size #[.slice y L.length qq, .int .i64 ty, .int .i64 cl, .int .i64 ttl, .slice z (pl - 10) r] := KK3.out.put5 _ _ _ _ _
      have KR : Bl 67 (((((w2.setCell ⟨w1.heap.size, 0, none⟩ (.slice y L.length qq)).setCell ⟨w1.heap.size, 1, none⟩ (.int .i64 ty)).setCell ⟨w1.heap.size, 2, none⟩ (.int .i64 cl)).setCell ⟨w1.heap.size, 3, none⟩ (.int .i64 ttl)).setCell ⟨w1.heap.size, 4, none⟩ (.slice z (pl - 10) r)) w.heap.size rec0 := KK4.out.far5 (by omega) _ _ _ _ _
      have S3 : Strs (((((w2.setCell ⟨w1.heap.size, 0, none⟩ (.slice y L.length qq)).setCell ⟨w1.heap.size, 1, none⟩ (.int .i64 ty)).setCell ⟨w1.heap.size, 2, none⟩ (.int .i64 cl)).setCell ⟨w1.heap.size, 3, none⟩ (.int .i64 ttl)).setCell ⟨w1.heap.size, 4, none⟩ (.slice z (pl - 10) r)) y qq (L.map strOfNums) := ST.out.below (by assumption)
      have Z3 : Bys (((((w2.setCell ⟨w1.heap.size, 0, none⟩ (.slice y L.length qq)).setCell ⟨w1.heap.size, 1, none⟩ (.int .i64 ty)).setCell ⟨w1.heap.size, 2, none⟩ (.int .i64 cl)).setCell ⟨w1.heap.size, 3, none⟩ (.int .i64 ttl)).setCell ⟨w1.heap.size, 4, none⟩ (.slice z (pl - 10) r)) z r D := HZ.out.far5 (fun a e => by have := HFZ.out a e; simp at this; omega) _ _ _ _ _
      have B3 : Below w.heap.size w (((((w2.setCell ⟨w1.heap.size, 0, none⟩ (.slice y L.length qq)).setCell ⟨w1.heap.size, 1, none⟩ (.int .i64 ty)).setCell ⟨w1.heap.size, 2, none⟩ (.int .i64 cl)).setCell ⟨w1.heap.size, 3, none⟩ (.int .i64 ttl)).setCell ⟨w1.heap.size, 4, none⟩ (.slice z (pl - 10) r)) := grown_on B2.out (by assumption)
      have F3 : ∀ a, z = some a → w.heap.size + 1 ≤ a.block := (fun a e => by have := HFZ.out a e; simp at this; omega)
      clear yc0 yc1 yc2 yc3 yc4 y0 y1 y2 y3 y4
      generalize (((((w2.setCell ⟨w1.heap.size, 0, none⟩ (.slice y L.length qq)).setCell ⟨w1.heap.size, 1, none⟩ (.int .i64 ty)).setCell ⟨w1.heap.size, 2, none⟩ (.int .i64 cl)).setCell ⟨w1.heap.size, 3, none⟩ (.int .i64 ttl)).setCell ⟨w1.heap.size, 4, none⟩ (.slice z (pl - 10) r)) = W3 at *
      have x0 : W3.cell? ⟨w1.heap.size, 0, none⟩ = some (.slice y L.length qq) := KX.cell (i := 0) rfl
      have x1 : W3.cell? ⟨w1.heap.size, 1, none⟩ = some (.int .i64 ty) := KX.cell (i := 1) rfl
      have x2 : W3.cell? ⟨w1.heap.size, 2, none⟩ = some (.int .i64 cl) := KX.cell (i := 2) rfl
      have x3 : W3.cell? ⟨w1.heap.size, 3, none⟩ = some (.int .i64 ttl) := KX.cell (i := 3) rfl
      have x4 : W3.cell? ⟨w1.heap.size, 4, none⟩ = some (.slice z (pl - 10) r) := KX.cell (i := 4) rfl
      have yc0 : W3.cell? ⟨w.heap.size, 0, none⟩ = some (.slice none 0 0) := KR.cell (i := 0) rfl
      have y0 := KR.frozen 0
      have yc1 : W3.cell? ⟨w.heap.size, 1, none⟩ = some (.int .i64 0) := KR.cell (i := 1) rfl
      have y1 := KR.frozen 1
      have yc2 : W3.cell? ⟨w.heap.size, 2, none⟩ = some (.int .i64 0) := KR.cell (i := 2) rfl
      have y2 := KR.frozen 2
      have yc3 : W3.cell? ⟨w.heap.size, 3, none⟩ = some (.int .i64 0) := KR.cell (i := 3) rfl
      have y3 := KR.frozen 3
      have yc4 : W3.cell? ⟨w.heap.size, 4, none⟩ = some (.slice none 0 0) := KR.cell (i := 4) rfl
      have y4 := KR.frozen 4
      have QR := hid KR
      have QS := hid S3
      have QZ := hid Z3
      have QB := hid B3
      have QF := hid F3
      clear KX KR S3 Z3 B3 F3
      go_wp2_with fail
      refine bodyPost_ret (results_rread _ _ w.heap.size _ _ _ _ _ rfl (QR.out.put5 _ _ _ _ _)) rfl ?_
      exact rread_end (by rw [DL.out]; exact HPL.out) QS.out QZ.out HZR.out QB.out FR.out QF.out _ _ _ _ _

end Go.Proofs.YtbbgabdiikdjpaaDoor
