/-
  The walk of subnet.Encode.
-/
import Derived.Test.YtgfplkhcihcagaaDoorSubIn
namespace Go.Proofs.YtgfplkhcihcagaaDoor
open Go.RowKit Go.Deep

theorem rowb_fresh {w : World} {B : Nat} {v : Value} {xs : List Int} (h : Rowb w B v xs) (hp : 0 < xs.length) (hl : xs.length ≤ 200000000000000) (hb : ∀ b ∈ xs, 0 ≤ b ∧ b ≤ 255) :
    ∃ b o c, v = .slice (some ⟨b, o, none⟩) xs.length c ∧ Bys w (some ⟨b, o, none⟩) c xs ∧ B ≤ b := by
  have h0 := h
  rcases h.2 with ⟨rfl, h4⟩ | ⟨g, cap, cur, rfl, hg, _⟩
  · omega
  · obtain ⟨x, c, e, hs⟩ := rowb_bys h0 hl hb
    cases e
    exact ⟨_, _, _, rfl, hs, hg⟩

theorem rowb_under {w w' : World} {B : Nat} {v : Value} {xs : List Int} (h : Rowb w B v xs) (k : Below w.heap.size w w') : Rowb w' B v xs := by
  have g : w.grownBy w' none := ⟨k.os, k.tape, k.output, k.size, fun j hj _ => k.block j hj⟩
  refine World.ownsRow.kept h g ?_
  cases v.ownBlock
  · exact Or.inl rfl
  · right; intro q; cases q

/-- Bytes appended to a row of the call's own, as a step of a region that draws. -/
theorem step_append_bys {w : World} {ops : Array Oper} {o : Oper} {a : Act} {K : Act → World → Prop} {Q : Exit → Act → World → Prop} {E : Prop} (hgd : o.guard = none) (sl x : Operand)
    (ho : o.op = .call { callee := .builtin .append, args := #[sl, x], argTypes := #[22, 22] }) (B : Nat) (v : Value) (xs : List Int) (hs : a.eval sl = v) (hown : Rowb w B v xs) (ad : Addr) (m c : Nat) (D : List Int) (hm : D.length = m) (hx : a.eval x = .slice (some ad) m c)
    (hn : ∀ j u, (D.map (Value.int .u8))[j]? = some u → w.cell? (ad.add j) = some u) (hl : xs.length + D.length ≤ 200000000000000) (hB : B ≤ w.heap.size)
    (h : ∀ v' w', Rowb w' B v' (xs ++ D) → w.grownBy w' v.ownBlock → K (a.put o.dst v') w') :
    if Region.wanted o (yielded ops a.tmps) = true then Oper.wp Tryd.prog o a w K Q else E := by
  have hw : Region.wanted o (yielded ops a.tmps) = true := by simp [Region.wanted, hgd]
  rw [if_pos hw]
  obtain ⟨i0, hi, hz0, hz1, hz2⟩ := info_of_byte
  subst hm
  obtain ⟨v', w', hr, hown', hgr, _⟩ := run_append_own_wide (P := Tryd.prog) w B 22 o.type 5 i0 (.int .u8 0) 1 1 Tryd.underlying22 hi hz0 hz1 hz2 rfl (by decide) v xs.length (xs.map (Value.int .u8)) hown ad D.length c (D.map (Value.int .u8)) (by simp) hn (one_cells D) (by unfold maxLen; omega) (by omega) hB
  unfold Oper.wp execOp
  simp only [ho, resolve, invoke, builtin, Sem.run_bind, Sem.run_pure, Result.andThen_ok, List.map_toArray, List.map_cons, List.map_nil, hs, hx, hr]
  exact h v' w' (Rowb.of hown' (by simp) (by simp)) hgr

set_option maxHeartbeats 1000000 in
set_option maxRecDepth 100000 in
theorem encode_bad {x : Option Addr} {c l : Nat} (s : Sn) (w : World) (hl : s.A.length = l) (hl2 : s.A.length ≤ 200000000000000) (hk : ¬ snE s = 0) :
    Calls Tryd.prog 28 #[.agg #[.int .i64 s.fam, .int .i64 s.src, .int .i64 s.scp, .slice x l c]] w fun e w' => e = .returned (.tuple #[.slice none 0 0, errV (snE s)]) ∧ Below w.heap.size w w' := by
  obtain ⟨fam, src, scp, A⟩ := s
  simp only at hl hl2 ⊢
  have B0 := hid ((Below.refl w.heap.size w).alloc (Nat.le_refl _) (.cells #[.int .i64 fam, .int .i64 src, .int .i64 scp, .slice x l c] 61))
  have HC := hid (scheck_at (x := x) (c := c) (l := l) _ ⟨fam, src, scp, A⟩ (w.alloc (.cells #[.int .i64 fam, .int .i64 src, .int .i64 scp, .slice x l c] 61)) hl hl2 rfl)
  rw [errV_some hk] at HC ⊢
  clear hk
  generalize snE ⟨fam, src, scp, A⟩ = k at *
  go_enter Tryd.func28, Tryd.ntmps28
  go_wp2_with fail
  refine HC.out.mono ?_
  rintro e w1 ⟨rfl, d1⟩
  have B1 := hid (grown_on B0.out d1)
  clear d1 HC
  go_wp2_with fail
  go_ret2
  exact ⟨rfl, B1.out⟩

/-- What Encode hands back. -/
def EncP (s : Sn) (w : World) (e : Ending) (w' : World) : Prop :=
  ∃ b o c, e = .returned (.tuple #[.slice (some ⟨b, o, none⟩) (encB s).length c, .nilIface]) ∧ Bys w' (some ⟨b, o, none⟩) c (encB s) ∧ w.heap.size ≤ b ∧ Below w.heap.size w w'

theorem encB_bytes {s : Sn} (h : snE s = 0) (hb : ∀ b ∈ s.A, 0 ≤ b ∧ b ≤ 255) : ∀ b ∈ encB s, 0 ≤ b ∧ b ≤ 255 := by
  obtain ⟨hfam, _, hf⟩ := snE_zero h
  have h1 := hf.1
  have h2 := hf.2
  intro b hm
  unfold encB at hm
  rw [List.mem_append, List.mem_append] at hm
  rcases hm with (hm | hm) | hm
  · simp only [twoN, List.mem_cons, List.not_mem_nil, or_false] at hm
    rcases hm with rfl | rfl <;> omega
  · simp only [List.mem_cons, List.not_mem_nil, or_false] at hm
    rcases hm with rfl | rfl <;> omega
  · exact maskN_bytes _ hb b (List.mem_of_mem_take hm)

theorem EncP.of {s : Sn} {w w' : World} {B : Nat} {v r : Value} (hb : ∀ b ∈ encB s, 0 ≤ b ∧ b ≤ 255) (h : Rowb w' B v (encB s)) (hB : w.heap.size ≤ B) (hw : Below w.heap.size w w') (hr : r = .tuple #[v, .nilIface]) (hl : (encB s).length ≤ 200000000000000) : EncP s w (.returned r) w' := by
  obtain ⟨b, o, c, rfl, hs, hBb⟩ := rowb_fresh h (by unfold encB; simp [twoN]) hl hb
  exact ⟨b, o, c, by rw [hr], hs, by omega, hw⟩

set_option maxHeartbeats 4000000 in
set_option maxRecDepth 100000 in
theorem encode_good {x : Option Addr} {c l : Nat} (s : Sn) (w : World) (h : Bys w x c s.A) (hl : s.A.length = l) (h0 : snE s = 0) :
    Calls Tryd.prog 28 #[.agg #[.int .i64 s.fam, .int .i64 s.src, .int .i64 s.scp, .slice x l c]] w (EncP s w) := by
  have HB := hid (encB_bytes h0 h.2.2.1)
  have HLn : Hid ((encB s).length ≤ 200000000000000) := hid (by
    obtain ⟨hfam, _, hf⟩ := snE_zero h0
    have := touch_le (n := s.src.toNat) (k := s.A.length) (by have := hf.1; omega)
    rw [encB_len h0]
    omega)
  obtain ⟨hfam, hw, hf⟩ := snE_zero h0
  obtain ⟨fam, src, scp, A⟩ := s
  simp only at hl hfam hf h ⊢
  obtain ⟨m, rfl⟩ : ∃ m : Nat, src = (m : Int) := ⟨src.toNat, by have := hf.1; simp only at this; omega⟩
  have hf1 : (m : Int) ≤ 128 := by have := hf.1; simp only at this; omega
  have hf0 : (0 : Int) ≤ (m : Int) := by omega
  have hg0 : 0 ≤ scp := by have := hf.2; simp only at this; omega
  have hg1 : scp ≤ 128 := by have := hf.2; simp only at this; omega
  have hm : m ≤ 8 * A.length := by have := hf.1; simp only at this; omega
  have B0 := hid ((Below.refl w.heap.size w).alloc (Nat.le_refl _) (.cells #[.int .i64 fam, .int .i64 (m : Int), .int .i64 scp, .slice x l c] 61))
  have C0 := hid (Bl.new 61 w #[.int .i64 fam, .int .i64 (m : Int), .int .i64 scp, .slice x l c])
  have HC := hid (scheck_at (x := x) (c := c) (l := l) 0 ⟨fam, m, scp, A⟩ (w.alloc (.cells #[.int .i64 fam, .int .i64 (m : Int), .int .i64 scp, .slice x l c] 61)) hl h.2.1 h0)
  have hlen : A.length ≤ 16 := by omega
  have HF := hid hfam
  clear hfam hw hf h0
  go_enter Tryd.func28, Tryd.ntmps28
  go_wp2_with fail
  refine HC.out.mono ?_
  rintro e w1 ⟨rfl, d1⟩
  have C1 := C0.out.below d1
  have c0 := C1.cell (i := 0) rfl
  have c1 := C1.cell (i := 1) rfl
  have c2 := C1.cell (i := 2) rfl
  have c3 := C1.cell (i := 3) rfl
  have B1 := hid (grown_on B0.out d1)
  have hlt := Nat.lt_of_lt_of_le C0.out.lt d1.size
  have HC1 := hid C1
  clear d1 HC C0 C1
  rw [show errV 0 = .nilIface from rfl]
  go_wp2_with fail
  refine (appendTwo_any w1.heap.size (.slice none 0 0) [] fam w1 (World.ownsRow_nil _ _ _ _) (by simp) (Nat.le_refl _)).mono ?_
  rintro e w2 ⟨v2, rfl, R2, d2, _⟩
  have C2 := HC1.out.under hlt d2
  clear c0 c1 c2 c3
  have c0 := C2.cell (i := 0) rfl
  have c1 := C2.cell (i := 1) rfl
  have c2 := C2.cell (i := 2) rfl
  have c3 := C2.cell (i := 3) rfl
  have HC2 := hid C2
  have HD2 := hid d2
  have HR2 := hid R2
  clear C2 d2 R2
  obtain ⟨i0, hi, hz0, hz1, hz2⟩ := info_of_byte
  have hown : w2.ownsRow w1.heap.size 5 1 v2 2 ((twoN fam).map (Value.int .u8)) := HR2.out
  have hle2 : w1.heap.size ≤ w2.heap.size := HD2.out.size
  go_wp2_with (at_builtin; refine wpList_append_own_wide _ rfl _ _ 22 rfl w1.heap.size 5 i0 (.int .u8 0) 1 1 Tryd.underlying22 hi hz0 hz1 hz2 rfl (by decide) _ _ _ rfl (hown.alloc _) ⟨w2.heap.size, 0, none⟩ 2 2 [.int .u8 (m : Int), .int .u8 scp] rfl rfl (cells_new w2 [.int .u8 (m : Int), .int .u8 scp] 5) (one_cells [(m : Int), scp]) (by unfold maxLen; omega) (by omega) (by simp; omega) ?_)
  intro v3 w3 hown3 hgrow3 _
  have R3 : Hid (Rowb w3 w1.heap.size v3 (twoN fam ++ [(m : Int), scp])) := hid (Rowb.of hown3 (by simp [twoN]) (by simp [twoN]))
  have B3 : Hid (Below w1.heap.size w1 w3) := hid (grown_below (hown.alloc _) (HD2.out.alloc hle2 _) (by simp; omega) hgrow3)
  clear hown hown3 hgrow3 HR2 c0 c1 c2 c3 hi hz0 hz1 hz2 i0
  have PK : Hid (∀ u, Below w1.heap.size w1 u → u.cell? ⟨w.heap.size, 1, none⟩ = some (.int .i64 (m : Int)) ∧ u.cell? ⟨w.heap.size, 3, none⟩ = some (.slice x l c) ∧ Below w1.heap.size w1 u) :=
    hid fun u hu => ⟨(HC1.out.under hlt hu).cell (i := 1) rfl, (HC1.out.under hlt hu).cell (i := 3) rfl, hu⟩
  obtain ⟨t, ht⟩ : ∃ t, touchN m = t := ⟨_, rfl⟩
  have htl : t ≤ l := by rw [← ht, ← hl]; exact touch_le (by omega)
  have jt : (t : Int) ≤ (l : Int) := by omega
  have M1 : Hid (∀ u, Below w1.heap.size w1 u → Calls Tryd.prog 66 #[.slice x l c, .int .i64 (m : Int)] u fun e u' => ∃ g, e = .returned (.slice (some ⟨g, 0, none⟩) l l) ∧ Bl 5 u' g ((maskN m A).map (Value.int .u8)).toArray ∧ Below u.heap.size u u' ∧ Below w1.heap.size w1 u') := by
    refine hid fun u hu => (masked_any m A u ((h.below B1.out).below hu) (fun q => ?_) hm hl).mono ?_
    · subst q
      rcases h.2.2.2 with e | ⟨_, _, e, _⟩
      · have := HF.out; rw [e] at this; simp only [List.length_nil] at this; omega
      · cases e
    rintro e u' ⟨rfl, k, d⟩
    exact ⟨u.heap.size, by rw [hl], k, d, hu.trans (d.mono hu.size)⟩
  have M2 : Hid (∀ u, Calls Tryd.prog 70 #[.int .i64 (m : Int)] u fun e u' => e = .returned (.int .i64 (t : Int)) ∧ u = u') := by
    rw [← ht]
    exact hid fun u => touched_at m u (by omega)
  have HN : Hid (∀ (u : World) (g : Nat), Bl 5 u g ((maskN m A).map (Value.int .u8)).toArray → ∀ j v, (((maskN m A).take t).map (Value.int .u8))[j]? = some v → u.cell? ((⟨g, 0, none⟩ : Addr).add j) = some v) := by
    refine hid fun u g k j v hj => ?_
    rw [show (⟨g, 0, none⟩ : Addr).add j = ⟨g, j, none⟩ by simp [Addr.add]; intro q; exact q.symm]
    refine k.cell ?_
    rw [List.map_take] at hj
    have hjl : j < t := by
      rcases Nat.lt_or_ge j t with q | q
      · exact q
      · rw [List.getElem?_eq_none (by simp; omega)] at hj; cases hj
    rw [List.getElem?_take_of_lt hjl] at hj
    simpa using hj
  have HDl : Hid (((maskN m A).take t).length = t) := hid (by rw [List.length_take, maskN_len]; omega)
  have HDs : Hid ((twoN fam ++ [(m : Int), scp]).length + ((maskN m A).take t).length ≤ 200000000000000) := hid (by rw [HDl.out]; simp [twoN]; omega)
  have HT := hid ht
  clear ht
  go_wp2_with fail
  obtain ⟨D, hD⟩ : ∃ D, (maskN m A).take t = D := ⟨_, rfl⟩
  rw [hD] at HN HDl HDs
  obtain ⟨P, hP⟩ : ∃ P, twoN fam ++ [(m : Int), scp] = P := ⟨_, rfl⟩
  rw [hP] at R3 HDs
  have HPD := hid (show encB ⟨fam, (m : Int), scp, A⟩ = P ++ D by rw [← hP, ← hD, ← HT.out]; rfl)
  clear hD hP
  go_region_held3 (fun u => u.cell? ⟨w.heap.size, 1, none⟩ = some (.int .i64 (m : Int)) ∧ u.cell? ⟨w.heap.size, 3, none⟩ = some (.slice x l c) ∧ Below w1.heap.size w1 u) (with_reducible (first | assumption | exact PK.out _ (Below.drew B3.out) | exact PK.out _ HB4 | exact PK.out _ HB5))
    (first
      | (go_at_call 66; refine (M1.out _ ?_).mono ?_; (first | assumption | exact Below.drew B3.out); rintro e w4 ⟨g, rfl, K4, D4, HB4⟩)
      | (go_at_call 70; refine (M2.out _).mono ?_; rintro e w5 ⟨rfl, rfl⟩)
      | (refine step_append_bys rfl (.tmp 23) (.tmp 32) rfl w1.heap.size v3 P rfl (rowb_under (w := w3.drew) R3.out D4) ⟨g, 0, none⟩ t _ D HDl.out rfl (HN.out _ _ K4) HDs.out HB4.size ?_; intro v5 w5 R5 G5; have HB5 := Rowb.below (rowb_under (w := w3.drew) R3.out D4) HB4 HB4.size G5))
  all_goals
    have R6 := hid R5
    have B6 := hid (grown_on B1.out HB5)
    clear R5 G5 HB5 HB4 K4 D4
    go_wp2_with fail
    go_ret2
    refine EncP.of (HB.out) (by rw [HPD.out]; exact R6.out) B1.out.size B6.out rfl HLn.out

end Go.Proofs.YtgfplkhcihcagaaDoor
