/-
  The walk of the document's own answer SubnetBytes.
-/
import Derived.Test.YtgfplkhcihcagaaDoorRefS2
import Derived.Maps.AppendAt
namespace Go.Proofs.YtgfplkhcihcagaaDoor
open Go.RowKit Go.Deep

theorem wrap_u8 (n : Int) (h0 : 0 ≤ n) (h1 : n ≤ 255) : IntKind.wrap .u8 n = n := by
  have : IntKind.wrap .u8 n = n % 256 := rfl
  rw [this]
  omega

theorem addr_add_block (a : Addr) (j : Nat) : (a.add j).block = a.block := by
  unfold Addr.add
  split <;> rfl

theorem rowb_bl {w : World} {B g : Nat} {xs : List Int} (h : Bl 5 w g (xs.map (Value.int .u8)).toArray) (hB : B ≤ g) (hl : xs.length ≤ 200000000000000) : Rowb w B (.slice (some ⟨g, 0, none⟩) xs.length xs.length) xs := by
  refine ⟨by simp, Or.inr ⟨g, xs.length, _, rfl, hB, h, Nat.le_refl _, by unfold maxLen; omega, by simp, by simp only [Nat.mul_one]; rw [List.take_of_length_le (by simp)]⟩⟩

set_option maxRecDepth 100000 in
theorem pair2_any (n : Int) (w : World) (h0 : 0 ≤ n) (h1 : n ≤ 65535) :
    Calls Tryd.prog 62 #[.int .i64 n] w fun e w' => ∃ g, e = .returned (.slice (some ⟨g, 0, none⟩) 2 2) ∧ Bl 5 w' g ((twoN n).map (Value.int .u8)).toArray ∧ w.heap.size ≤ g ∧ Below w.heap.size w w' := by
  have e1 : n / 256 % 256 = n / 256 := by omega
  have K : Hid (Bl 5 (w.alloc (.cells #[.int .u8 (n / 256), .int .u8 (n % 256)] 5)) w.heap.size ((twoN n).map (Value.int .u8)).toArray) := hid (by
    have := Bl.new 5 w #[.int .u8 (n / 256), .int .u8 (n % 256)]
    simpa [twoN, e1] using this)
  clear e1
  go_enter Tryd.func62, Tryd.ntmps62
  go_wp2_with fail
  go_ret
  exact ⟨w.heap.size, rfl, K.out, Nat.le_refl _, (Below.refl _ w).alloc (Nat.le_refl _) _⟩

/-- One byte appended to a row of the call's own: where the new row lies. -/
theorem wpList_append_where {w : World} {B : Nat} {v : Value} {xs : List Int} {y : Int} {ad : Addr} {ops : Array Oper} {rest : List Oper} {o : Oper} {a : Act} {Q : Exit → Act → World → Prop} (hgd : o.guard = none) (sl x : Operand)
    (ho : o.op = .call { callee := .builtin .append, args := #[sl, x], argTypes := #[22, 22] }) (hs : a.eval sl = v) (hx : a.eval x = .slice (some ad) 1 1) (hr : Rowb w B v xs) (hy : ∀ j u, [Value.int .u8 y][j]? = some u → w.cell? (ad.add j) = some u) (hl : xs.length ≤ 100000000000000) (hB : B ≤ w.heap.size)
    (hK : ∀ v' w', Rowb w' B v' (xs ++ [y]) → w.grownBy w' v.ownBlock → (v'.ownBlock = v.ownBlock ∨ v'.ownBlock = some w.heap.size) → wpList Tryd.prog ops Q rest (a.put o.dst v') w') : wpList Tryd.prog ops Q (o :: rest) a w := by
  obtain ⟨i0, hi, hz0, hz1, hz2⟩ := info_of_byte
  refine wpList_plain hgd fun K hK' => ?_
  obtain ⟨v', w', hrun, hown, hg, _, hw⟩ := run_append_own_at (P := Tryd.prog) w B 22 o.type 5 i0 (.int .u8 0) 1 1 Tryd.underlying22 hi hz0 hz1 hz2 rfl (by decide) v xs.length _ hr ad 1 1 [Value.int .u8 y] rfl hy (one_cells [y]) (by unfold maxLen; omega) (by omega) hB
  unfold Oper.wp execOp
  simp only [ho, resolve, invoke, builtin, Sem.run_bind, Sem.run_pure, Result.andThen_ok, List.map_toArray, List.map_cons, List.map_nil, hs, hx, hrun]
  exact hK' _ _ (hK _ _ (Rowb.of hown (by simp) (by simp)) hg hw)

theorem bys_kept {w w' : World} {x : Option Addr} {c : Nat} {ms : List Int} {row : Option Nat} (h : Bys w x c ms) (g : w.grownBy w' row) (hn : ∀ a, x = some a → ms = [] ∨ some a.block ≠ row) : Bys w' x c ms := by
  obtain ⟨h1, h2, h3, h4⟩ := h
  refine ⟨h1, h2, h3, ?_⟩
  rcases h4 with h4 | ⟨b, off, hx, hb, hc⟩
  · exact Or.inl h4
  · rcases hn _ hx with q | q
    · exact Or.inl q
    · refine Or.inr ⟨b, off, hx, Nat.lt_of_lt_of_le hb g.size, fun i hi => ?_⟩
      have := g.block b hb q
      rw [← hc i hi]
      simp only [World.cell?, this]

/-- What SubnetBytes hands back. -/
def SbP (s : Sn) (w : World) (e : Ending) (w' : World) : Prop :=
  ∃ b o c, e = .returned (.slice (some ⟨b, o, none⟩) (encB s).length c) ∧ Bys w' (some ⟨b, o, none⟩) c (encB s) ∧ w.heap.size ≤ b ∧ Below w.heap.size w w'

theorem SbP.of {s : Sn} {w w' : World} {B : Nat} {v r : Value} (hb : ∀ b ∈ encB s, 0 ≤ b ∧ b ≤ 255) (h : Rowb w' B v (encB s)) (hB : w.heap.size ≤ B) (hw : Below w.heap.size w w') (hl : (encB s).length ≤ 200000000000000) (hr : r = v) : SbP s w (.returned r) w' := by
  obtain ⟨b, o, c, rfl, hs, hBb⟩ := rowb_fresh h (by unfold encB; simp [twoN]) hl hb
  exact ⟨b, o, c, by rw [hr], hs, by omega, hw⟩

theorem take_touch {m : Nat} {A : List Int} {i : Nat} (hi : i < A.length) (hin : 8 * i < m) : (maskN m A).take (min (i + 1) (touchN m)) = (maskN m A).take (min i (touchN m)) ++ [(maskN m A).getD i 0] := by
  have h1 : i + 1 ≤ touchN m := by unfold touchN; omega
  rw [Nat.min_eq_left h1, Nat.min_eq_left (by omega)]
  exact take_snoc (by rw [maskN_len]; exact hi)

theorem take_touch' {m i : Nat} {A : List Int} (hin : ¬ 8 * i < m) : (maskN m A).take (min (i + 1) (touchN m)) = (maskN m A).take (min i (touchN m)) := by
  have h1 : touchN m ≤ i := by unfold touchN; omega
  rw [Nat.min_eq_right h1, Nat.min_eq_right (by omega)]

set_option maxHeartbeats 4000000 in
set_option maxRecDepth 100000 in
theorem sbytes_any {x : Option Addr} {c l : Nat} (s : Sn) (w : World) (h : Bys w x c s.A) (hl : s.A.length = l) (h0 : snE s = 0) :
    Calls Tryd.prog 27 #[.agg #[.int .i64 s.fam, .int .i64 s.src, .int .i64 s.scp, .slice x l c]] w (SbP s w) := by
  have HBy := hid (encB_bytes h0 h.2.2.1)
  have HLn : Hid ((encB s).length = 4 + touchN s.src.toNat) := hid (encB_len h0)
  obtain ⟨hfam, hw, hf⟩ := snE_zero h0
  obtain ⟨fam, src, scp, A⟩ := s
  simp only at hl hfam hf h ⊢
  obtain ⟨m, rfl⟩ : ∃ m : Nat, src = (m : Int) := ⟨src.toNat, by have := hf.1; simp only at this; omega⟩
  have hf1 : (m : Int) ≤ 128 := by have := hf.1; simp only at this; omega
  have hf0 : (0 : Int) ≤ (m : Int) := by omega
  have hg0 : 0 ≤ scp := by have := hf.2; simp only at this; omega
  have hg1 : scp ≤ 128 := by have := hf.2; simp only at this; omega
  have hm : m ≤ 8 * A.length := by have := hf.1; simp only at this; omega
  have hlen : A.length ≤ 16 := by omega
  have hpos : 0 < A.length := by omega
  have hfa : 0 ≤ fam ∧ fam ≤ 65535 := by omega
  have B1 := (Below.refl w.heap.size w).alloc (Nat.le_refl _) (.cells #[.int .i64 fam, .int .i64 (m : Int), .int .i64 scp, .slice x l c] 61)
  have C1 := Bl.new 61 w #[.int .i64 fam, .int .i64 (m : Int), .int .i64 scp, .slice x l c]
  obtain ⟨w1, hw1⟩ : ∃ w1, w1 = w.alloc (.cells #[.int .i64 fam, .int .i64 (m : Int), .int .i64 scp, .slice x l c] 61) := ⟨_, rfl⟩
  have hsz1 : w1.heap.size = w.heap.size + 1 := by rw [hw1]; simp
  rw [← hw1] at B1 C1
  have HB1 := hid B1
  have HC1 := hid C1
  have HW1 := hid hw1
  have hlt : w.heap.size < w1.heap.size := by omega
  have HSZ1 := hid hsz1
  clear hfam hw hf h0 hw1 B1 C1 hsz1
  have PK : Hid (∀ u, Below w1.heap.size w1 u → u.cell? ⟨w.heap.size, 0, none⟩ = some (.int .i64 fam) ∧ u.cell? ⟨w.heap.size, 1, none⟩ = some (.int .i64 (m : Int)) ∧ u.cell? ⟨w.heap.size, 2, none⟩ = some (.int .i64 scp) ∧ Below w1.heap.size w1 u) :=
    hid fun u hu => ⟨(HC1.out.under hlt hu).cell (i := 0) rfl, (HC1.out.under hlt hu).cell (i := 1) rfl, (HC1.out.under hlt hu).cell (i := 2) rfl, hu⟩
  have M1 : Hid (∀ u, Below w1.heap.size w1 u → Calls Tryd.prog 62 #[.int .i64 fam] u fun e u' => ∃ g, e = .returned (.slice (some ⟨g, 0, none⟩) 2 2) ∧ Rowb u' w1.heap.size (.slice (some ⟨g, 0, none⟩) 2 2) (twoN fam) ∧ Below u.heap.size u u' ∧ Below w1.heap.size w1 u') := by
    refine hid fun u hu => (pair2_any fam u hfa.1 hfa.2).mono ?_
    rintro e u' ⟨g, rfl, k, hg, d⟩
    exact ⟨g, rfl, rowb_bl (xs := twoN fam) k (Nat.le_trans hu.size hg) (by simp [twoN]), d, hu.trans (d.mono hu.size)⟩
  have HD2 : Hid ([(m : Int), scp].length = 2) := hid rfl
  have HD3 : Hid ((twoN fam).length + [(m : Int), scp].length ≤ 200000000000000) := hid (by simp [twoN])
  have CN : Hid (∀ (u : World), ∀ j v, ([(m : Int), scp].map (Value.int .u8))[j]? = some v → (u.alloc (.cells #[.int .u8 (m : Int), .int .u8 scp] 5)).cell? ((⟨u.heap.size, 0, none⟩ : Addr).add j) = some v) := hid fun u => cells_new u [.int .u8 (m : Int), .int .u8 scp] 5
  have CM : Hid (∀ (u : World), Below (w1.alloc (.cells #[.int .u8 (m : Int), .int .u8 scp] 5)).drew.heap.size (w1.alloc (.cells #[.int .u8 (m : Int), .int .u8 scp] 5)).drew u → ∀ j v, ([(m : Int), scp].map (Value.int .u8))[j]? = some v → u.cell? ((⟨w1.heap.size, 0, none⟩ : Addr).add j) = some v) := hid fun u hu j v hj => by
    refine (hu.cell ?_).trans (CN.out w1 j v hj)
    rw [addr_add_block]
    simp
  obtain ⟨D, hD⟩ : ∃ D, [(m : Int), scp] = D := ⟨_, rfl⟩
  rw [hD] at HD2 HD3 CN CM
  have HDD := hid hD
  have wr1 : IntKind.u8.wrap (m : Int) = (m : Int) := wrap_u8 _ hf0 (by omega)
  have wr2 : IntKind.u8.wrap scp = scp := wrap_u8 _ hg0 (by omega)
  clear hD hfa
  go_enter Tryd.func27, Tryd.ntmps27
  go_wp2_with fail
  rw [← HW1.out]
  clear HW1
  go_region_held3 (fun u => u.cell? ⟨w.heap.size, 0, none⟩ = some (.int .i64 fam) ∧ u.cell? ⟨w.heap.size, 1, none⟩ = some (.int .i64 (m : Int)) ∧ u.cell? ⟨w.heap.size, 2, none⟩ = some (.int .i64 scp) ∧ Below w1.heap.size w1 u) (with_reducible (first | assumption | exact PK.out _ (Below.drew (Below.refl _ _)) | exact PK.out _ HB5 | exact PK.out _ HB4 | exact PK.out _ ((Below.refl _ _).alloc (Nat.le_refl _) _).drew | exact PK.out _ (Below.alloc HB4 (Below.size HB4) _)))
    (first
      | (go_at_call 62; refine (M1.out _ ?_).mono ?_; (first | assumption | exact Below.drew (Below.refl _ _) | exact ((Below.refl _ _).alloc (Nat.le_refl _) _).drew); rintro e w4 ⟨g4, rfl, R4, D4, HB4⟩)
      | (refine step_append_bys rfl (.tmp 8) (.tmp 15) rfl w1.heap.size (.slice (some ⟨g4, 0, none⟩) 2 2) (twoN fam) rfl R4 ⟨w1.heap.size, 0, none⟩ 2 _ D HD2.out rfl (CM.out w4 D4) HD3.out (Below.size HB4) ?_; intro v5 w5 R5 G5; have HB5 := Rowb.below R4 HB4 (Below.size HB4) G5)
      | (refine step_append_bys rfl (.tmp 8) (.tmp 15) rfl w1.heap.size (.slice (some ⟨g4, 0, none⟩) 2 2) (twoN fam) rfl (World.ownsRow.alloc R4 _) ⟨w4.heap.size, 0, none⟩ 2 _ D HD2.out rfl (CN.out w4) HD3.out (Nat.le_trans (Below.size HB4) (by simp)) ?_; intro v5 w5 R5 G5; have HB5 := Rowb.below (World.ownsRow.alloc R4 _) (Below.alloc HB4 (Below.size HB4) _) (Nat.le_trans (Below.size HB4) (by simp)) G5))
  all_goals
    rw [← HDD.out] at R5
    have HR5 := hid R5
    have C5 := HC1.out.under hlt HB5
    have c1 := C5.cell (i := 1) rfl
    have c3 := C5.cell (i := 3) rfl
    have H5 := hid HB5
    have hb5 : Hid (∀ k, v5.ownBlock = some k → k < w5.heap.size) := hid fun k hk => (World.ownsRow.lt R5 k hk).2
    have M6 := hid (rmasked_any m A w5 ((h.below HB1.out).below HB5) hl hm (by omega))
    clear R5 G5 HB5 HB4 R4 D4 C5
    go_wp2_with fail
    refine M6.out.mono ?_
    rintro e w6 ⟨v6, rfl, R6, d6⟩
    obtain ⟨b6, o6, c6, rfl, Y6, hb6⟩ := rowb_fresh R6 (by rw [maskN_len]; exact hpos) (by rw [maskN_len]; omega) (maskN_bytes m h.2.2.1)
    rw [maskN_len, hl]
    have HY6 := hid Y6
    have H6 : Hid (Below w1.heap.size w1 w6) := hid (H5.out.trans (d6.mono H5.out.size))
    have R56 : Hid (Rowb w6 w1.heap.size v5 (twoN fam ++ [(m : Int), scp])) := hid (rowb_under HR5.out d6)
    have hne5 : Hid (v5.ownBlock ≠ some b6) := hid fun q => by have := hb5.out _ q; omega
    clear R6 d6 Y6 HR5 H5 c1 c3 M6 PK M1 CN CM
    go_wp2_with fail
    go_loopw [3, 5] (fun o t wr => ∃ i : Nat, i ≤ A.length ∧ t = .int .i64 (i : Int) ∧ Hid (Rowb wr w1.heap.size o (twoN fam ++ [(m : Int), scp] ++ (maskN m A).take (min i (touchN m)))) ∧ Hid (Below w1.heap.size w1 wr) ∧ Hid (Bys wr (some ⟨b6, o6, none⟩) c6 (maskN m A)) ∧ Hid (o.ownBlock ≠ some b6)) (fun _ t _ => A.length - (intOf t).toNat)
    case atStart => exact ⟨0, Nat.zero_le _, rfl, by simpa using R56, H6, HY6, hne5⟩
    case round =>
      obtain ⟨i, hi, rfl, HR, HB, HY, HN⟩ := hrel
      by_cases hlt2 : i < A.length
      · have q1 := (HC1.out.under hlt HB.out).cell (i := 1) rfl
        have hli : (i : Int) < (l : Int) := by omega
        by_cases hin : 8 * i < m
        · have hin2 : 8 * (i : Int) < (m : Int) := by omega
          have HT := hid (take_touch hlt2 hin)
          have hgb := getD_byte (maskN_bytes m h.2.2.1) i
          have hcell : wr.cell? ⟨b6, o6 + i, none⟩ = some (.int .u8 ((maskN m A).getD i 0)) := by
            rcases HY.out.2.2.2 with e | ⟨b', o', e, _, hq⟩
            · have := maskN_len m A; rw [e] at this; simp at this; omega
            · cases e; exact hq i (by rw [maskN_len]; exact hlt2)
          have hbw : b6 < wr.heap.size := by
            rcases HY.out.2.2.2 with e | ⟨b', o', e, hb', _⟩
            · have := maskN_len m A; rw [e] at this; simp at this; omega
            · cases e; exact hb'
          have hle := HB.out.size
          generalize (maskN m A).getD i 0 = y at *
          have CY := hid (cells_new wr [.int .u8 y] 5)
          go_wp2_with (at_builtin; refine wpList_append_where rfl _ _ rfl rfl rfl (World.ownsRow.alloc HR.out _) CY.out (by simp [twoN]; omega) (by simp; omega) ?_)
          intro v1 w7 R7 G7 W7
          have F1 : Hid (Rowb w7 w1.heap.size v1 (twoN fam ++ [(m : Int), scp] ++ (maskN m A).take (min (i + 1) (touchN m)))) := hid (by rw [HT.out, ← List.append_assoc]; exact R7)
          have F2 : Hid (Below w1.heap.size w1 w7) := hid (Rowb.below (World.ownsRow.alloc HR.out _) (HB.out.alloc hle _) (by simp; omega) G7)
          have F3 : Hid (Bys w7 (some ⟨b6, o6, none⟩) c6 (maskN m A)) := hid (bys_kept (HY.out.below ((Below.refl _ _).alloc (Nat.le_refl _) _)) G7 (fun a q => by cases q; exact Or.inr (fun q2 => HN.out q2.symm)))
          have F4 : Hid (v1.ownBlock ≠ some b6) := hid (fun q => by
            rcases W7 with q2 | q2
            · exact HN.out (q2.symm.trans q)
            · rw [q2] at q; simp at q; omega)
          clear R7 G7 W7 HR HB HY HN HT CY hcell q1
          go_wp2_with fail
          exact ⟨⟨i + 1, by omega, by go_num, F1, F2, F3, F4⟩, by simp [intOf]; omega⟩
        · have hin2 : ¬ 8 * (i : Int) < (m : Int) := by omega
          have F1 : Hid (Rowb wr w1.heap.size u3 (twoN fam ++ [(m : Int), scp] ++ (maskN m A).take (min (i + 1) (touchN m)))) := hid (by rw [take_touch' hin]; exact HR.out)
          clear HR
          go_wp2_with fail
          exact ⟨⟨i + 1, by omega, by go_num, F1, HB, HY, HN⟩, by simp [intOf]; omega⟩
      · have hli : ¬ (i : Int) < (l : Int) := by omega
        have FE : Hid (Rowb wr w1.heap.size u3 (encB ⟨fam, (m : Int), scp, A⟩)) := hid (by
          have := HR.out
          have ht := touch_le (n := m) (k := A.length) (by omega)
          rw [Nat.min_eq_right (by omega)] at this
          exact this)
        clear HR
        go_wp2_with fail
        go_ret
        exact SbP.of HBy.out FE.out HB1.out.size (grown_on HB1.out HB.out) (by have := HLn.out; have ht := touch_le (n := m) (k := A.length) (by omega); rw [Int.toNat_natCast] at this; omega) rfl

end Go.Proofs.YtgfplkhcihcagaaDoor
