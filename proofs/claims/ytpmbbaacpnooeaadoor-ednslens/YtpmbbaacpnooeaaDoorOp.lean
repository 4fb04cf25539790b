/-
  Options: plain, in memory; the walks of package edns' sizeOf and dataOf.
-/
import Derived.Test.YtpmbbaacpnooeaaDoorApB
import Derived.Test.YtpmbbaacpnooeaaDoorFr
namespace Go.Proofs.YtpmbbaacpnooeaaDoor
open Go.RowKit Go.Deep

structure On where
  code : Int
  D : List Int

/-- What is wrong with options, one by one. -/
def optE : List On → Int
  | [] => 0
  | o :: os => if ¬ (0 ≤ o.code ∧ o.code ≤ 65535) then 6 else if 65535 < o.D.length then 7 else optE os

/-- How many bytes options have. -/
def optSize : List On → Nat
  | [] => 0
  | o :: os => 4 + o.D.length + optSize os

/-- What is wrong with options as the data of a record. -/
def dataE (os : List On) : Int := if ¬ optE os = 0 then optE os else if 65535 < optSize os then 7 else 0

/-- Their bytes. -/
def optB (os : List On) : List Int := os.flatMap fun o => twoN o.code ++ twoN (o.D.length : Int) ++ o.D

theorem optE_cons (o : On) (os : List On) : optE (o :: os) = if ¬ (0 ≤ o.code ∧ o.code ≤ 65535) then 6 else if 65535 < o.D.length then 7 else optE os := rfl

theorem optE_append (a b : List On) (h : optE a = 0) : optE (a ++ b) = optE b := by
  induction a with
  | nil => rfl
  | cons o os ih =>
    rw [List.cons_append]
    rw [optE_cons] at h ⊢
    by_cases c1 : ¬ (0 ≤ o.code ∧ o.code ≤ 65535)
    · rw [if_pos c1] at h; cases h
    · rw [if_neg c1] at h ⊢
      by_cases c2 : 65535 < o.D.length
      · rw [if_pos c2] at h; cases h
      · rw [if_neg c2] at h ⊢
        exact ih h

theorem optE_take {os : List On} {i : Nat} (hi : i < os.length) (h : optE (os.take i) = 0) : optE os = optE (os[i] :: os.drop (i + 1)) := by
  conv => lhs; rw [← List.take_append_drop i os]
  rw [optE_append _ _ h, List.drop_eq_getElem_cons hi]

theorem optE_next {os : List On} {i : Nat} (hi : i < os.length) (h : optE (os.take i) = 0) (h1 : 0 ≤ os[i].code ∧ os[i].code ≤ 65535) (h2 : os[i].D.length ≤ 65535) : optE (os.take (i + 1)) = 0 := by
  rw [List.take_succ_eq_append_getElem hi, optE_append _ _ h]
  unfold optE
  rw [if_neg (by simpa using h1), if_neg (by omega)]
  rfl

theorem optSize_append (a b : List On) : optSize (a ++ b) = optSize a + optSize b := by
  induction a with
  | nil => simp [optSize]
  | cons o os ih => rw [List.cons_append]; simp only [optSize, ih]; omega

theorem optSize_next {os : List On} {i : Nat} (hi : i < os.length) : optSize (os.take (i + 1)) = optSize (os.take i) + (4 + os[i].D.length) := by
  rw [List.take_succ_eq_append_getElem hi, optSize_append]
  simp [optSize]

theorem optSize_bound {os : List On} (h : optE os = 0) : optSize os ≤ os.length * 65539 := by
  induction os with
  | nil => simp [optSize]
  | cons o os ih =>
    unfold optE at h
    by_cases c1 : ¬ (0 ≤ o.code ∧ o.code ≤ 65535)
    · rw [if_pos c1] at h; cases h
    · rw [if_neg c1] at h
      by_cases c2 : 65535 < o.D.length
      · rw [if_pos c2] at h; cases h
      · rw [if_neg c2] at h
        have := ih h
        simp only [optSize, List.length_cons]
        omega

theorem optB_len (os : List On) : (optB os).length = optSize os := by
  induction os with
  | nil => rfl
  | cons o os ih =>
    have : optB (o :: os) = (twoN o.code ++ twoN (o.D.length : Int) ++ o.D) ++ optB os := by simp [optB]
    rw [this, List.length_append, ih]
    simp [optSize, twoN]
    omega

theorem optB_next {os : List On} {i : Nat} (hi : i < os.length) : optB (os.take (i + 1)) = optB (os.take i) ++ twoN os[i].code ++ twoN (os[i].D.length : Int) ++ os[i].D := by
  unfold optB
  rw [List.take_succ_eq_append_getElem hi, List.flatMap_append, List.flatMap_cons, List.flatMap_nil, List.append_nil]
  simp only [List.append_assoc]

theorem optB_take_len {os : List On} (i : Nat) : (optB (os.take i)).length ≤ optSize os := by
  rw [optB_len]
  conv => rhs; rw [← List.take_append_drop i os]
  rw [optSize_append]; omega

/-- An option stands at a place of a block. -/
def OCell (w : World) (B b o : Nat) (r : On) : Prop :=
  ∃ z t, w.cell? ⟨b, o, none⟩ = some (.int .i64 r.code) ∧ w.cell? ⟨b, o + 1, none⟩ = some (.slice z r.D.length t) ∧ Bys w z t r.D ∧ (z = none → t = 0) ∧ ∀ a, z = some a → B ≤ a.block

/-- A slice leads to these options. -/
def Ops (w : World) (B : Nat) (x : Option Addr) (c : Nat) (os : List On) : Prop :=
  os.length ≤ c ∧ os.length ≤ 5000000000000 ∧ (os = [] ∨ ∃ b off, x = some ⟨b, off, none⟩ ∧ b < w.heap.size ∧ B ≤ b ∧ ∀ i (h : i < os.length), OCell w B b (off + i * 2) os[i])

theorem Ops.nil (w : World) (B : Nat) (x : Option Addr) (c : Nat) : Ops w B x c [] := ⟨Nat.zero_le _, by simp, Or.inl rfl⟩

theorem Ops.below {w w' : World} {B : Nat} {x : Option Addr} {c : Nat} {os : List On} (h : Ops w B x c os) (k : Below w.heap.size w w') : Ops w' B x c os := by
  obtain ⟨h1, h2, h3⟩ := h
  refine ⟨h1, h2, ?_⟩
  rcases h3 with h3 | ⟨b, off, hx, hb, hB, hc⟩
  · exact Or.inl h3
  · refine Or.inr ⟨b, off, hx, Nat.lt_of_lt_of_le hb k.size, hB, fun i hi => ?_⟩
    obtain ⟨z, t, q1, q2, q3, q4, q5⟩ := hc i hi
    exact ⟨z, t, by rw [k.cell (p := ⟨b, off + i * 2, none⟩) hb]; exact q1, by rw [k.cell (p := ⟨b, off + i * 2 + 1, none⟩) hb]; exact q2, q3.below k, q4, q5⟩

theorem Ops.at {w : World} {B : Nat} {x : Option Addr} {c : Nat} {os : List On} (h : Ops w B x c os) {i : Nat} (hi : i < os.length) : ∃ b off z t, x = some ⟨b, off, none⟩ ∧ b < w.heap.size ∧ w.cell? ⟨b, off + i * 2, none⟩ = some (.int .i64 os[i].code) ∧ w.cell? ⟨b, off + i * 2 + 1, none⟩ = some (.slice z os[i].D.length t) ∧ Bys w z t os[i].D ∧ (z = none → t = 0) := by
  rcases h.2.2 with h3 | ⟨b, off, hx, hb, _, hc⟩
  · rw [h3] at hi; simp at hi
  · obtain ⟨z, t, k1, k2, k3, k4, _⟩ := hc i hi
    exact ⟨b, off, z, t, hx, hb, k1, k2, k3, k4⟩

/-- What sizeOf answers. -/
def SizeP (os : List On) (w : World) (e : Ending) (w' : World) : Prop := e = .returned (.tuple #[.int .i64 (if optE os = 0 then (optSize os : Int) else 0), errV (optE os)]) ∧ Below w.heap.size w w'

theorem SizeP.bad {os : List On} {w w' : World} {k : Int} (h : optE os = k) (hk : ¬ k = 0) (b : Below w.heap.size w w') : SizeP os w (.returned (.tuple #[.int .i64 0, .iface 29 (.int .i64 k)])) w' := by
  subst h
  refine ⟨?_, b⟩
  rw [if_neg hk, errV_some hk]

theorem SizeP.good {os : List On} {w w' : World} (h : optE os = 0) (b : Below w.heap.size w w') : SizeP os w (.returned (.tuple #[.int .i64 (optSize os : Int), .nilIface])) w' := by
  refine ⟨?_, b⟩
  rw [if_pos h, h, errV_none]

set_option maxHeartbeats 1000000 in
set_option maxRecDepth 100000 in
theorem sizeOf_any {x : Option Addr} {c l bq : Nat} (os : List On) (w : World) (h : Ops w bq x c os) (hl : os.length = l) :
    Calls Tryd.prog 92 #[.slice x l c] w (SizeP os w) := by
  subst hl
  have hlen := h.2.1
  go_enter Tryd.func92, Tryd.ntmps92
  go_wp2_with fail
  go_loopw [4, 9] (fun vs vi wr => ∃ i : Nat, i ≤ os.length ∧ vs = .int .i64 (optSize (os.take i) : Int) ∧ vi = .int .i64 (i : Int) ∧ optE (os.take i) = 0 ∧ Below w.heap.size w wr) (fun _ i _ => os.length - (intOf i).toNat)
  case atStart => exact ⟨0, Nat.zero_le _, rfl, rfl, rfl, Below.refl _ _⟩
  case round =>
    obtain ⟨i, hi, rfl, rfl, hE, hbel⟩ := hrel
    have hsz := optSize_bound hE
    rw [List.length_take] at hsz
    by_cases ci : i < os.length
    · obtain ⟨b0, o0, z, t, rfl, hb0, e0, e1, q1, q2⟩ := (h.below hbel).at ci
      have ET := hid (optE_take ci hE)
      have NE := hid (optE_next ci hE)
      have NS := hid (optSize_next ci)
      have HE := hid hE
      have HB := hid hbel
      have hdl := q1.2.1
      generalize os[i] = o at *
      generalize optSize (os.take i) = sz at *
      have ci2 : (i : Int) < (os.length : Int) := by omega
      have BA := hid (grown_on hbel ((Below.refl wr.heap.size wr).alloc (Nat.le_refl _) (.cells #[.int .i64 o.code, .slice z o.D.length t] 108)))
      clear hE hbel q1 q2 h
      by_cases c1 : 0 ≤ o.code ∧ o.code ≤ 65535
      · by_cases c2 : 65535 < o.D.length
        · have c3 : (65535 : Int) < (o.D.length : Int) := by omega
          go_wp2_with fail
          refine (rfits_at true o.code 65535 _ (by simpa using c1)).mono ?_
          rintro e w1 ⟨rfl, rfl⟩
          go_wp2_with fail
          go_ret2
          exact SizeP.bad (by rw [ET.out, optE_cons, if_neg (by simpa using c1), if_pos c2]) (by decide) BA.out
        · have c3 : ¬ (65535 : Int) < (o.D.length : Int) := by omega
          go_wp2_with fail
          refine (rfits_at true o.code 65535 _ (by simpa using c1)).mono ?_
          rintro e w1 ⟨rfl, rfl⟩
          go_wp2_with fail
          exact ⟨⟨i + 1, by omega, by rw [NS.out]; go_num, by go_num, NE.out c1 (by omega), BA.out⟩, by simp [intOf]; omega⟩
      · go_wp2_with fail
        refine (rfits_at false o.code 65535 _ (by simpa using c1)).mono ?_
        rintro e w1 ⟨rfl, rfl⟩
        go_wp2_with fail
        go_ret2
        exact SizeP.bad (by rw [ET.out, optE_cons, if_pos c1]) (by decide) BA.out
    · have ei : i = os.length := by omega
      subst ei
      rw [List.take_of_length_le (Nat.le_refl _)] at hE
      have es : os.take os.length = os := List.take_of_length_le (Nat.le_refl _)
      have HE := hid hE
      have HB := hid hbel
      rw [es]
      clear hE hbel es
      go_wp2_with fail
      go_ret2
      exact SizeP.good HE.out HB.out

set_option maxHeartbeats 400000 in
set_option maxRecDepth 100000 in
theorem appendTwo_own (B : Nat) (v : Value) (xs : List Int) (n : Int) (w : World) (hown : Rowb w B v xs) (hl : xs.length ≤ 1000000) (hB : B ≤ w.heap.size) :
    Calls Tryd.prog 65 #[v, .int .i64 n] w fun e w' => ∃ v', e = .returned v' ∧ Rowb w' B v' (xs ++ twoN n) ∧ w.grownBy w' v.ownBlock ∧ (v'.ownBlock = v.ownBlock ∨ v'.ownBlock = some (w.heap.size + 1)) := by
  obtain ⟨i0, hi, hz0, hz1, hz2⟩ := info_of_byte
  unfold Rowb at hown
  go_enter Tryd.func65, Tryd.ntmps65
  go_wp2_with (at_builtin; refine wpList_append_own_at _ rfl _ _ 22 rfl B 5 i0 (.int .u8 0) 1 1 Tryd.underlying22 hi hz0 hz1 hz2 rfl (by decide) _ _ _ rfl (hown.alloc _) ⟨w.heap.size, 0, none⟩ 2 2 [.int .u8 (n / 256 % 256), .int .u8 (n % 256)] rfl rfl (cells_new w [.int .u8 (n / 256 % 256), .int .u8 (n % 256)] 5) (one_cells [n / 256 % 256, n % 256]) (by unfold maxLen; omega) (by omega) (by simp; omega) ?_)
  intro v1 w1 hown1 hgrow1 _ hloc
  have HL : Hid (v1.ownBlock = v.ownBlock ∨ v1.ownBlock = some (w.heap.size + 1)) := hid (by simpa using hloc)
  clear hloc
  go_wp2_with fail
  go_ret
  exact ⟨v1, rfl, Rowb.of hown1 (by simp [twoN]) (by simp [twoN]), grown_alloc hgrow1, HL.out⟩

theorem Bl.grown {t : TypeId} {w w' : World} {b : Nat} {C : Array Value} {row : Option Nat} (h : Bl t w b C) (g : w.grownBy w' row) (hn : some b ≠ row) : Bl t w' b C := by
  have := h.lt
  unfold Bl at h ⊢
  rw [g.block b this hn]
  exact h

/-- What dataOf answers where nothing is wrong: bytes in memory of its own. -/
def DataP (os : List On) (w : World) (e : Ending) (w' : World) : Prop :=
  ∃ v, e = .returned (.tuple #[v, .nilIface]) ∧ Rowb w' w.heap.size v (optB os) ∧ Below w.heap.size w w'

set_option maxHeartbeats 1000000 in
set_option maxRecDepth 100000 in
theorem dataOf_bad {x : Option Addr} {c l bq : Nat} (k : Int) (os : List On) (w : World) (h : Ops w bq x c os) (hl : os.length = l) (hk : dataE os = k) (h0 : ¬ k = 0) :
    Calls Tryd.prog 77 #[.slice x l c] w fun e w' => e = .returned (.tuple #[.slice none 0 0, .iface 29 (.int .i64 k)]) ∧ Below w.heap.size w w' := by
  by_cases c1 : optE os = 0
  · by_cases c2 : 65535 < optSize os
    · have e7 : k = 7 := by rw [← hk]; unfold dataE; rw [if_neg (by simpa using c1), if_pos c2]
      subst e7
      have c3 : (65535 : Int) < (optSize os : Int) := by omega
      have C1 := hid c1
      clear hk c1
      go_enter Tryd.func77, Tryd.ntmps77
      go_wp2_with fail
      refine (sizeOf_any os w h hl).mono ?_
      rintro e w1 ⟨rfl, b1⟩
      rw [if_pos C1.out, C1.out, errV_none]
      go_wp2_with fail
      go_ret2
      exact ⟨rfl, b1⟩
    · exfalso
      apply h0
      rw [← hk]; unfold dataE; rw [if_neg (by simpa using c1), if_neg c2]
  · have e7 : k = optE os := by rw [← hk]; unfold dataE; rw [if_pos c1]
    subst e7
    have C1 := hid c1
    clear hk c1
    go_enter Tryd.func77, Tryd.ntmps77
    go_wp2_with fail
    refine (sizeOf_any os w h hl).mono ?_
    rintro e w1 ⟨rfl, b1⟩
    rw [if_neg C1.out, errV_some C1.out]
    go_wp2_with fail
    go_ret2
    exact ⟨rfl, b1⟩

set_option maxHeartbeats 2000000 in
set_option maxRecDepth 100000 in
theorem dataOf_good {x : Option Addr} {c l bq : Nat} (os : List On) (w : World) (h : Ops w bq x c os) (hl : os.length = l) (hk : dataE os = 0) :
    Calls Tryd.prog 77 #[.slice x l c] w (DataP os w) := by
  subst hl
  have h0 : optE os = 0 ∧ optSize os ≤ 65535 := by
    unfold dataE at hk
    by_cases c1 : optE os = 0
    · rw [if_neg (by simpa using c1)] at hk
      by_cases c2 : 65535 < optSize os
      · rw [if_pos c2] at hk; cases hk
      · exact ⟨c1, by omega⟩
    · rw [if_pos c1] at hk; exact absurd hk c1
  obtain ⟨c1, c2⟩ := h0
  have c3 : ¬ (65535 : Int) < (optSize os : Int) := by omega
  have C1 := hid c1
  have hlen := h.2.1
  clear hk c1
  go_enter Tryd.func77, Tryd.ntmps77
  go_wp2_with fail
  refine (sizeOf_any os w h rfl).mono ?_
  rintro e w1 ⟨rfl, b1⟩
  rw [if_pos C1.out, C1.out, errV_none]
  have B1 := hid b1
  clear b1
  go_wp2_with fail
  go_loopw [6, 22] (fun v vi wr => ∃ i : Nat, i ≤ os.length ∧ vi = .int .i64 (i : Int) ∧ Rowb wr w.heap.size v (optB (os.take i)) ∧ Below w.heap.size w wr) (fun _ i _ => os.length - (intOf i).toNat)
  case atStart => exact ⟨0, Nat.zero_le _, rfl, World.ownsRow_nil _ _ _ _, B1.out⟩
  case round =>
    obtain ⟨i, hi, rfl, hrow, hbel⟩ := hrel
    have hbl := optB_take_len (os := os) i
    by_cases ci : i < os.length
    · obtain ⟨b0, o0, z, t, rfl, hb0, p0, p1, q1, q2⟩ := h.at ci
      have hbl2 := optB_take_len (os := os) (i + 1)
      have e0 := (hbel.cell (p := ⟨b0, o0 + i * 2, none⟩) hb0).trans p0
      have e1 := (hbel.cell (p := ⟨b0, o0 + i * 2 + 1, none⟩) hb0).trans p1
      have NB := hid (optB_next ci)
      rw [NB.out] at hbl2
      simp only [List.length_append, two_len] at hbl2
      generalize os[i] = o at *
      generalize optB (os.take i) = X at *
      have ci2 : (i : Int) < (os.length : Int) := by omega
      have hw : w.heap.size ≤ wr.heap.size := hbel.size
      have BA := hid ((Below.refl wr.heap.size wr).alloc (Nat.le_refl _) (.cells #[.int .i64 o.code, .slice z o.D.length t] 108))
      have KO := hid (Bl.new 108 wr #[.int .i64 o.code, .slice z o.D.length t])
      have R0 := hid hrow
      have HB := hid hbel
      have Q1 := hid q1
      have Q2 := hid q2
      have ho : ∀ g, u6.ownBlock = some g → g < wr.heap.size := fun g hg => (World.ownsRow.lt hrow g hg).2
      have HO := hid ho
      clear p0 p1 q1 q2 hrow hbel h ho B1
      go_wp2_with fail
      refine (appendTwo_own w.heap.size _ X o.code _ (owns_stay R0.out BA.out) (by omega) (by simp; omega)).mono ?_
      rintro e w2 ⟨v2, rfl, r2, g2, l2⟩
      have n2 : some wr.heap.size ≠ u6.ownBlock := fun q => by have := HO.out _ q.symm; omega
      have K2 := hid (KO.out.grown g2 n2)
      have B2 := hid ((grown_on HB.out BA.out).grown g2 (by simp; omega) (fun k hk => (World.ownsRow.lt (owns_stay R0.out BA.out) k hk).1))
      have s2 : wr.heap.size + 1 ≤ w2.heap.size := by have := g2.size; simpa using this
      have L2 : Hid (some wr.heap.size ≠ v2.ownBlock) := hid (by
        rcases l2 with q | q
        · rw [q]; exact n2
        · rw [q]; simp; omega)
      have R2 := hid r2
      have d1 : w2.cell? ⟨wr.heap.size, 1, none⟩ = _ := K2.out.cell (i := 1) rfl
      clear r2 g2 l2 n2 e0 e1
      go_wp2_with fail
      refine (appendTwo_own w.heap.size _ (X ++ twoN o.code) (o.D.length : Int) _ R2.out (by simp [twoN]; omega) (by omega)).mono ?_
      rintro e w3 ⟨v3, rfl, r3, g3, l3⟩
      have K3 := hid (K2.out.grown g3 L2.out)
      have B3 := hid (B2.out.grown g3 (by omega) (fun k hk => (World.ownsRow.lt R2.out k hk).1))
      have s3 : wr.heap.size + 1 ≤ w3.heap.size := Nat.le_trans s2 g3.size
      have R3 := hid r3
      have d2 : w3.cell? ⟨wr.heap.size, 1, none⟩ = _ := K3.out.cell (i := 1) rfl
      clear r3 g3 l3 d1
      go_wp2_with (at_builtin; refine wpList_append_bys rfl _ _ rfl rfl rfl R3.out (Q1.out.below B3.out) (by simp [twoN]; omega) (by omega) ?_)
      intro v4 w4 r4 g4
      have R4 : Hid (Rowb w4 w.heap.size v4 (optB (os.take (i + 1)))) := hid (by rw [NB.out]; simpa only [List.append_assoc] using r4)
      have B4 := hid (B3.out.grown g4 (by omega) (fun k hk => (World.ownsRow.lt R3.out k hk).1))
      clear r4 g4 d2
      go_wp2_with fail
      exact ⟨⟨i + 1, by omega, by go_num, R4.out, B4.out⟩, by simp [intOf]; omega⟩
    · have ei : i = os.length := by omega
      subst ei
      have R0 : Hid (Rowb wr w.heap.size u6 (optB os)) := hid (by rw [List.take_of_length_le (Nat.le_refl _)] at hrow; exact hrow)
      have HB := hid hbel
      clear hrow hbel
      go_wp2_with fail
      go_ret2
      exact ⟨_, rfl, R0.out, HB.out⟩

end Go.Proofs.YtpmbbaacpnooeaaDoor
