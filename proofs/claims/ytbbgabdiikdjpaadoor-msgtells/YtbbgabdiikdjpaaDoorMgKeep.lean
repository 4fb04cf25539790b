/-
  The walk of keep: a part is taken over into the draft, with the places of the labels that were written; or the draft is full.
-/
import Derived.Test.YtbbgabdiikdjpaaDoorMgMap
import Derived.Test.YtbbgabdiikdjpaaDoorLast
import Derived.Test.YtbbgabdiikdjpaaDoorMgMem
namespace Go.Proofs.YtbbgabdiikdjpaaDoor
open Go.RowKit Go.Deep Go.Maps

theorem wp_mapUpdate_own {H : Type} {P : Program} (w : World) {o : Oper} {a : Act} {K : Act → World → Prop} {Q : Exit → Act → World → Prop}
    (m x v : Operand) (t : TypeId) (hop : o.op = Op.mapUpdate t m x v)
    (k e : TypeId) (KK : Keyed P k) (ht : P.underlying t = some (.map k e)) (R : Value → Option (DataW H × List MemPlace)) (b n : Nat) (D : DataW H)
    (hm : a.eval m = .map (some b)) (hown : w.ownsMap P k R b n D) (hn : n < maxLen) (key val : Value) (kl : Lit) (hx : a.eval x = key) (hv : a.eval v = val) (hkey : keyOf P k key = some kl)
    (d : DataW H) (ps : List MemPlace) (hval : R val = some (d, ps))
    (hK : ∀ w', w'.ownsMap P k R b (n + 1) (D.put kl d) → w.grownBy w' (some b) → K (a.put o.dst undef) w') : o.wp P a w K Q := by
  obtain ⟨w', hrun, r1, r2⟩ := hown.update KK ht hn hkey hval
  unfold Oper.wp
  simp [execOp, hop, hm, hx, hv, hrun, Result.andThen]
  exact hK w' r1 r2

/-- A draft in a block: its bytes, its table. -/
def Dr (w : World) (g B : Nat) (out : List Int) (tab : List (Int × List ByteArray)) : Prop :=
  ∃ x c b, Bl 104 w g #[.slice x out.length c, .map (some b), .bool false] ∧ Rowb w B (.slice x out.length c) out ∧ MapIs w b tab ∧ B ≤ g ∧ B ≤ b

/-- A draft that is full. -/
def DrF (w : World) (g B : Nat) : Prop := Bl 104 w g #[.slice none 0 0, .map none, .bool true] ∧ B ≤ g

theorem map_ne {w : World} {b g : Nat} {tab : List (Int × List ByteArray)} {t : TypeId} {C : Array Value} (h : MapIs w b tab) (k : Bl t w g C) : ¬ b = g := by
  intro e
  obtain ⟨n, D, ⟨es, clock, hb, _⟩, _⟩ := h
  unfold Bl at k
  rw [e, k] at hb
  cases hb

theorem rowb_ne {w : World} {B g : Nat} {v : Value} {xs : List Int} {t : TypeId} {C : Array Value} (h : Rowb w B v xs) (k : Bl t w g C) (ht : ¬ t = 5) : v.ownBlock = none ∨ v.ownBlock ≠ some g := by
  rcases h.2 with ⟨rfl, _⟩ | ⟨g', cap, cur, rfl, _, hh, _⟩
  · exact Or.inl rfl
  · right
    intro e
    simp only [Value.ownBlock, Option.some.injEq] at e
    unfold Bl at k
    rw [e, k] at hh
    simp only [Option.some.injEq, Obj.cells.injEq] at hh
    exact ht hh.2.1

theorem rowb_map_ne {w : World} {B b : Nat} {v : Value} {xs : List Int} {tab : List (Int × List ByteArray)} (h : Rowb w B v xs) (k : MapIs w b tab) : v.ownBlock = none ∨ v.ownBlock ≠ some b := by
  obtain ⟨n, D, ⟨es, clock, hb, _⟩, _⟩ := k
  rcases h.2 with ⟨rfl, _⟩ | ⟨g', cap, cur, rfl, _, hh, _⟩
  · exact Or.inl rfl
  · right
    intro e
    simp only [Value.ownBlock, Option.some.injEq] at e
    rw [e, hb] at hh
    cases hh

theorem Rowb.far {w : World} {B : Nat} {v : Value} {xs : List Int} (h : Rowb w B v xs) {p : Addr} (hp : v.ownBlock = none ∨ v.ownBlock ≠ some p.block) (u : Value) : Rowb (w.setCell p u) B v xs := by
  unfold Rowb at h ⊢
  refine h.kept (row := some p.block) ⟨rfl, rfl, rfl, by simp [World.setCell], fun k hk hne => Below.heap_setCell w p u k (fun e => hne (by rw [e]))⟩ hp

theorem strs_map {w w' : World} {b : Nat} {x : Option Addr} {c : Nat} {ss : List ByteArray} (h : Strs w x c ss) (g : w.grownBy w' (some b)) (hb : ∀ a, x = some a → ss = [] ∨ ¬ a.block = b) : Strs w' x c ss :=
  h.kept g (fun a e => (hb a e).imp id (fun q r => q (by cases r; rfl)))

theorem strs_no_map {w : World} {b : Nat} {x : Option Addr} {c : Nat} {ss : List ByteArray} {tab : List (Int × List ByteArray)} (h : Strs w x c ss) (k : MapIs w b tab) : ∀ a, x = some a → ss = [] ∨ ¬ a.block = b := by
  intro a e
  rcases h.2.2.2 with q | ⟨b0, off, hx, hb0, hc⟩
  · exact Or.inl q
  · rcases ss with _ | ⟨s, ss⟩
    · exact Or.inl rfl
    · right
      intro r
      rw [hx] at e
      cases e
      simp only at r
      subst r
      obtain ⟨n, D, ⟨es, clock, hb, _⟩, _⟩ := k
      have := hc 0 (by simp)
      simp [World.cell?, hb] at this

theorem ints_no_map {w : World} {b : Nat} {x : Option Addr} {c : Nat} {zs : List Int} {tab : List (Int × List ByteArray)} (h : Ints w x c zs) (k : MapIs w b tab) : ∀ a, x = some a → zs = [] ∨ ¬ a.block = b := by
  intro a e
  rcases h.2.2.2 with q | ⟨b0, off, hx, hb0, hc⟩
  · exact Or.inl q
  · rcases zs with _ | ⟨s, ss⟩
    · exact Or.inl rfl
    · right
      intro r
      rw [hx] at e
      cases e
      simp only at r
      subst r
      obtain ⟨n, D, ⟨es, clock, hb, _⟩, _⟩ := k
      have := hc 0 (by simp)
      simp [World.cell?, hb] at this

theorem Ints.kept {w w' : World} {x : Option Addr} {c : Nat} {zs : List Int} {row : Option Nat} (h : Ints w x c zs) (g : w.grownBy w' row) (hn : ∀ a, x = some a → zs = [] ∨ some a.block ≠ row) : Ints w' x c zs := by
  obtain ⟨h1, h2, h3, h4⟩ := h
  refine ⟨h1, h2, h3, ?_⟩
  rcases h4 with h4 | ⟨b, off, hx, hb, hc⟩
  · exact Or.inl h4
  · rcases hn _ hx with q | q
    · exact Or.inl q
    · refine Or.inr ⟨b, off, hx, Nat.lt_of_lt_of_le hb g.size, fun i hi => ?_⟩
      have := g.block b hb q
      rw [← hc i hi]
      simp only [World.cell?, this]

theorem draft_cell {x0 : Option Addr} {l0 c0 : Nat} {b : Option Nat} {f : Bool} {i : Nat} {v : Value} (h : (#[.slice x0 l0 c0, .map b, .bool f] : Array Value)[i]? = some v) : v = .slice x0 l0 c0 ∨ v = .map b ∨ v = .bool f := by
  match i, h with
  | 0, h => left; simpa using h.symm
  | 1, h => right; left; simpa using h.symm
  | 2, h => right; right; simpa using h.symm
  | i + 3, h => simp at h

theorem strs_apart {w : World} {g : Nat} {x x0 : Option Addr} {c l0 c0 : Nat} {ss : List ByteArray} {b : Option Nat} {f : Bool} (h : Strs w x c ss) (k : Bl 104 w g #[.slice x0 l0 c0, .map b, .bool f]) : ∀ a, x = some a → ss = [] ∨ ¬ a.block = g := by
  intro a e
  rcases h.2.2.2 with q | ⟨b0, off, hx, hb0, hc⟩
  · exact Or.inl q
  · rcases ss with _ | ⟨s, ss⟩
    · exact Or.inl rfl
    · right
      intro r
      rw [hx] at e
      cases e
      simp only at r
      subst r
      have hh := hc 0 (by simp)
      unfold Bl at k
      simp only [World.cell?, k] at hh
      rcases draft_cell hh with q | q | q <;> cases q

theorem ints_apart {w : World} {g : Nat} {x x0 : Option Addr} {c l0 c0 : Nat} {zs : List Int} {b : Option Nat} {f : Bool} (h : Ints w x c zs) (k : Bl 104 w g #[.slice x0 l0 c0, .map b, .bool f]) : ∀ a, x = some a → zs = [] ∨ ¬ a.block = g := by
  intro a e
  rcases h.2.2.2 with q | ⟨b0, off, hx, hb0, hc⟩
  · exact Or.inl q
  · rcases zs with _ | ⟨s, ss⟩
    · exact Or.inl rfl
    · right
      intro r
      rw [hx] at e
      cases e
      simp only at r
      subst r
      have hh := hc 0 (by simp)
      unfold Bl at k
      simp only [World.cell?, k] at hh
      rcases draft_cell hh with q | q | q <;> cases q

theorem grown_drew {w w' : World} {n : Nat} {r : Option Nat} (h : (w.drewN n).grownBy w' r) : w.grownBy w' r := by
  have k := ((Drawn.refl w).more n).below w.heap.size
  exact ⟨h.os.trans k.os, h.tape.trans k.tape, h.output.trans k.output, Nat.le_trans k.size h.size, fun i hi hr => (h.block i (Nat.lt_of_lt_of_le hi k.size) hr).trans (k.block i hi)⟩

theorem wf_of {n : Int} (h0 : -9223372036854775808 ≤ n) (h1 : n ≤ 9223372036854775807) : (Lit.int .i64 n).wf = true := WalkArith.wf_i64 (by omega)

/-- The part is too long, or the draft was full: it is full. -/
theorem keep_full {x y z : Option Addr} {l lz ly s c t : Nat} (g : Nat) (v vm : Value) (full : Bool) (w : World) (hg : Bl 104 w g #[v, vm, .bool full]) (hf : full = true ∨ 65535 < l) (hl : l ≤ 200000000000000) :
    Calls Tryd.prog 68 #[.pointer (some ⟨g, 0, none⟩), .slice x l c, .slice z lz s, .slice y ly t] w fun e w' => e = .returned (.tuple #[]) ∧ Bl 104 w' g #[.slice none 0 0, .map none, .bool true] ∧ ∀ B, B ≤ g → Below B w w' := by
  have c0 := hg.cell (i := 0) rfl
  have c1 := hg.cell (i := 1) rfl
  have c2 := hg.cell (i := 2) rfl
  have f0 := hg.frozen 0
  have f1 := hg.frozen 1
  have f2 := hg.frozen 2
  have HG := hid hg
  clear hg
  cases full with
  | true =>
    go_enter Tryd.func68, Tryd.ntmps68
    go_wp2_with fail
    (try simp only [Exit.inBlock, Exit.then]); refine bodyPost_ret (results_none rfl _ _ _) rfl ?_
    exact ⟨rfl, HG.out.put3 _ _ _, fun B hB => below_put3 (Below.refl _ _) hB _ _ _⟩
  | false =>
    have h1 : (65535 : Int) < (l : Int) := by rcases hf with q | q; cases q; omega
    go_enter Tryd.func68, Tryd.ntmps68
    go_wp2_with fail
    (try simp only [Exit.inBlock, Exit.then]); refine bodyPost_ret (results_none rfl _ _ _) rfl ?_
    exact ⟨rfl, HG.out.put3 _ _ _, fun B hB => below_put3 (Below.refl _ _) hB _ _ _⟩

theorem new_get {len : Nat} {n : List ByteArray} {k i : Nat} (h : i < (newT len n k).length) : i < k ∧ (newT len n k)[i]? = some (((len + Nm.total ((n.map Nm.bs).take i) : Nat) : Int), n.drop i) ∧ len + Nm.total ((n.map Nm.bs).take i) ≤ 16383 := by
  obtain ⟨j, h1, h2, _⟩ := new_row len n k
  have hm : (newT len n k)[i]? = some (newT len n k)[i] := List.getElem?_eq_getElem h
  have hmem := List.getElem_mem h
  rw [h2] at h
  rw [List.length_map, List.length_range] at h
  have e : (newT len n k)[i]? = some (((len + Nm.total ((n.map Nm.bs).take i) : Nat) : Int), n.drop i) := by
    rw [h2, List.getElem?_map, List.getElem?_range h]
    rfl
  refine ⟨by omega, e, ?_⟩
  rw [e] at hm
  simp only [Option.some.injEq] at hm
  rw [← hm] at hmem
  obtain ⟨i', _, hl, he⟩ := new_mem hmem
  simp only [Prod.mk.injEq] at he
  omega

theorem drop_ne {n : List ByteArray} {i j : Nat} (hi : i < n.length) (hj : j < i) : ¬ n.drop j = n.drop i := by
  intro e
  have := congrArg List.length e
  rw [List.length_drop, List.length_drop] at this
  omega

/-- The part is taken over. -/
def KeepRel (w : World) (g B b : Nat) (x : Option Addr) (l c : Nat) (out : List Int) (tab T : List (Int × List ByteArray)) (z y : Option Addr) (s t : Nat) (n : List ByteArray) (vi : Value) (wr : World) : Prop :=
  ∃ i : Nat, i ≤ T.length ∧ vi = .int .i64 (i : Int) ∧ Bl 104 wr g #[.slice x l c, .map (some b), .bool false] ∧ MapIs wr b (tab ++ T.take i) ∧ Rowb wr B (.slice x l c) out ∧ Strs wr z s (endsL n) ∧ Ints wr y t (T.map (·.1)) ∧ Below B w wr ∧ B ≤ wr.heap.size

set_option maxHeartbeats 2000000 in
set_option maxRecDepth 100000 in
theorem keep_good {x y z x0 : Option Addr} {l lz ly s c t l0 cp0 : Nat} (g B b : Nat) (out : List Int) (tab : List (Int × List ByteArray)) (n : List ByteArray) (k len : Nat) (w : World)
    (hg : Bl 104 w g #[.slice x0 l0 cp0, .map (some b), .bool false]) (hm : MapIs w b tab) (hr : Rowb w B (.slice x l c) out) (hout : out.length = l) (h6 : l ≤ 65535) (hz : Strs w z s (endsL n)) (hlz : n.length = lz) (hk : Nm.checkN (n.map Nm.bs) = 0)
    (hy : Ints w y t ((newT len n k).map (·.1))) (hly : (newT len n k).length = ly) (hkn : k ≤ n.length) (hnew : ∀ i, i < k → findT tab (n.drop i) = none) (htl : tab.length ≤ 1000000000) (hB1 : B ≤ g) (hB2 : B ≤ b) :
    Calls Tryd.prog 68 #[.pointer (some ⟨g, 0, none⟩), .slice x l c, .slice z lz s, .slice y ly t] w fun e w' => e = .returned (.tuple #[]) ∧ Dr w' g B out (tab ++ newT len n k) ∧ Below B w w' := by
  subst hlz hly
  have c0 := hg.cell (i := 0) rfl
  have c2 := hg.cell (i := 2) rfl
  have f0 := hg.frozen 0
  have K := hid hk
  have h254 := check_len hk
  rw [List.length_map] at h254
  obtain ⟨T, hT⟩ : ∃ T, newT len n k = T := ⟨_, rfl⟩
  have hTl : T.length ≤ n.length := by
    rw [← hT]
    obtain ⟨j, h1, h2, _⟩ := new_row len n k
    rw [h2, List.length_map, List.length_range]
    omega
  have HG : Hid (∀ i, i < T.length → i < n.length ∧ T[i]? = some (((len + Nm.total ((n.map Nm.bs).take i) : Nat) : Int), n.drop i) ∧ len + Nm.total ((n.map Nm.bs).take i) ≤ 16383 ∧ findT (tab ++ T.take i) (n.drop i) = none) := hid (by
    intro i hi
    rw [← hT] at hi ⊢
    obtain ⟨q1, q2, q3⟩ := new_get hi
    refine ⟨by omega, q2, q3, ?_⟩
    rw [findT_append, hnew i q1]
    simp only
    refine findT_of_none fun e he => ?_
    obtain ⟨j, hj, hje⟩ := List.mem_iff_getElem.1 he
    rw [List.getElem_take] at hje
    rw [List.length_take] at hj
    have q4 := new_get (len := len) (n := n) (k := k) (i := j) (by omega)
    have q5 : (newT len n k)[j]? = some (newT len n k)[j] := List.getElem?_eq_getElem (by omega)
    rw [hje, q4.2.1] at q5
    simp only [Option.some.injEq] at q5
    rw [← q5]
    exact drop_ne (by omega) (by omega))
  rw [hT] at hy ⊢
  have hgb := map_ne hm hg
  have W1 : Hid (Bl 104 (w.setCell ⟨g, 0, none⟩ (.slice x l c)) g #[.slice x l c, .map (some b), .bool false]) := hid (hg.set 0 _)
  have M1 := hid (hm.far (p := ⟨g, 0, none⟩) hgb (.slice x l c))
  have R1 := hid (hr.far (p := ⟨g, 0, none⟩) (rowb_ne hr hg (by decide)) (.slice x l c))
  have S1 : Hid (Strs (w.setCell ⟨g, 0, none⟩ (.slice x l c)) z s (endsL n)) := hid (Strs.kept hz (row := some g) ⟨rfl, rfl, rfl, by simp [World.setCell], fun k hk hne => Below.heap_setCell w _ _ k (fun e => hne (by rw [e]))⟩ (fun a e => (strs_apart hz hg a e).imp id (fun q r => q (by cases r; rfl))))
  have I1 : Hid (Ints (w.setCell ⟨g, 0, none⟩ (.slice x l c)) y t (T.map (·.1))) := hid (Ints.kept hy (row := some g) ⟨rfl, rfl, rfl, by simp [World.setCell], fun k hk hne => Below.heap_setCell w _ _ k (fun e => hne (by rw [e]))⟩ (fun a e => (ints_apart hy hg a e).imp id (fun q r => q (by cases r; rfl))))
  have B1 := hid ((Below.refl B w).setCell (p := ⟨g, 0, none⟩) hB1 (.slice x l c))
  have hBw : B ≤ w.heap.size := by have := hg.lt; omega
  have h7 : ¬ (65535 : Int) < (l : Int) := by omega
  have HO := hid hout
  clear hg hm hr hz hy hk hnew hT hgb hout
  go_enter Tryd.func68, Tryd.ntmps68
  go_wp2_with fail
  go_loopw [28] (fun vi wr => KeepRel w g B b x l c out tab T z y s t n vi wr) (fun i _ => T.length - (intOf i).toNat)
  case atStart => exact ⟨0, Nat.zero_le _, rfl, W1.out, by rw [List.take_zero, List.append_nil]; exact M1.out, R1.out, S1.out, I1.out, B1.out, by simpa [World.setCell] using hBw⟩
  case round =>
    clear W1 M1 R1 S1 I1 B1 c0 c2 f0
    obtain ⟨i, hi, rfl, hgr, hmr, hrr, hzr, hyr, hbr, hBr⟩ := hrel
    by_cases c1 : i < T.length
    · obtain ⟨g1, g2, g3, g4⟩ := HG.out i c1
      obtain ⟨b0, o0, rfl, hb0, q0⟩ : ∃ b off, z = some ⟨b, off, none⟩ ∧ b < wr.heap.size ∧ ∀ i, i < (endsL n).length → wr.cell? ⟨b, off + i, none⟩ = some (.string ((endsL n).getD i ByteArray.empty)) := by
        rcases hzr.2.2.2 with hd | hd
        · have h0 : (endsL n).length = 0 := by rw [hd]; rfl
          rw [ends_len] at h0
          omega
        · exact hd
      have q1 := q0 i (by rw [ends_len]; exact g1)
      rw [ends_get g1] at q1
      obtain ⟨b1, o1, rfl, hb1, r0⟩ : ∃ b off, y = some ⟨b, off, none⟩ ∧ b < wr.heap.size ∧ ∀ i, i < (T.map (·.1)).length → wr.cell? ⟨b, off + i, none⟩ = some (.int .i64 ((T.map (·.1)).getD i 0)) := by
        rcases hyr.2.2.2 with hd | hd
        · have h0 : (T.map (·.1)).length = 0 := by rw [hd]; rfl
          rw [List.length_map] at h0
          omega
        · exact hd
      have r1 := r0 i (by rw [List.length_map]; exact c1)
      have e1 : (T.map (·.1)).getD i 0 = ((len + Nm.total ((n.map Nm.bs).take i) : Nat) : Int) := by
        rw [List.getD_eq_getElem?_getD, List.getElem?_map, g2]
        rfl
      rw [e1] at r1
      have HTk : Hid (T.take (i + 1) = T.take i ++ [(((len + Nm.total ((n.map Nm.bs).take i) : Nat) : Int), n.drop i)]) := hid (by
        rw [List.take_add_one, g2]
        rfl)
      have hmc := hmr
      obtain ⟨en, D, hown, hen, hD, hbd, hall⟩ := hmr
      have m1 := hgr.cell (i := 1) rfl
      have kd := check_drop K.out i
      have hkey := keyL_of kd
      have hlt : en < maxLen := by
        rw [List.length_append, List.length_take] at hen
        unfold maxLen
        omega
      have NW := hid (map_put (p := ((len + Nm.total ((n.map Nm.bs).take i) : Nat) : Int)) hD kd g4 hall)
      have HBD := hid hbd
      have HEN := hid hen
      have G := hid hgr
      have MM := hid hmc
      have RR := hid hrr
      have ZZ := hid hzr
      have YY := hid hyr
      have BB := hid hbr
      have hwf : (Lit.int .i64 ((len + Nm.total ((n.map Nm.bs).take i) : Nat) : Int)).wf = true := wf_of (by omega) (by omega)
      have c2 : (i : Int) < (T.length : Int) := by omega
      have c3 : (i : Int) < (n.length : Int) := by omega
      clear q0 r0 e1 g2 g4 hall hbd hen hgr hrr hzr hyr hbr hmc kd
      generalize len + Nm.total ((n.map Nm.bs).take i) = p at *
      go_wp2_with fail
      refine wp_region_last _ (by kernel_rfl) rfl (by kernel_rfl) ?_
      simp only [List.dropLast_cons_cons, List.dropLast_singleton]
      repeat (go_big_quiet_step (fail))
      refine wpQuiet_nil ?_
      intro _ hw'
      obtain ⟨nq, rfl⟩ := hw'
      simp only [List.getLast_cons_cons, List.getLast_singleton]
      refine wp_mapUpdate_own _ _ _ _ 102 rfl 9 3 law_string Tryd.underlying102 (plainElem Tryd.prog 3) b en D rfl hown hlt (.string (keyS (n.drop i))) (.int .i64 (p : Int)) (keyL (n.drop i)) rfl rfl hkey (.lit (.int .i64 (p : Int))) [] (plainElem_int Tryd.underlying3 hwf) ?_
      intro w2 hown2 hgr2
      have hgr3 : wr.grownBy w2 (some b) := grown_drew hgr2
      have M2 : Hid (MapIs w2 b (tab ++ T.take (i + 1))) := hid (by
        rw [HTk.out, ← List.append_assoc]
        refine ⟨en + 1, _, hown2, ?_, hD.put _ _, fun e he => ?_, NW.out⟩
        · rw [List.length_append]; exact Nat.add_le_add_right HEN.out 1
        · rcases List.mem_append.1 he with he | he
          · exact HBD.out e he
          · rw [List.mem_singleton.1 he]; simp only; omega)
      have G2 : Hid (Bl 104 w2 g #[.slice x l c, .map (some b), .bool false]) := hid (by
        have := hgr3.block g G.out.lt (fun e => map_ne MM.out G.out (by cases e; rfl))
        have k := G.out
        unfold Bl at k ⊢
        rw [this, k])
      have R2 : Hid (Rowb w2 B (.slice x l c) out) := hid (World.ownsRow.kept RR.out hgr3 (rowb_map_ne RR.out MM.out))
      have Z2 := hid (strs_map ZZ.out hgr3 (strs_no_map ZZ.out MM.out))
      have Y2 := hid (Ints.kept YY.out hgr3 (fun a e => (ints_no_map YY.out MM.out a e).imp id (fun q r => q (by cases r; rfl))))
      have B2 : Hid (Below B w w2) := hid (BB.out.grown hgr3 hBr (fun k e => by cases e; exact hB2))
      have hBr2 : B ≤ w2.heap.size := Nat.le_trans hBr hgr3.size
      clear hown2 hgr2 hgr3 hown m1 q1 r1
      go_wp2_with fail
      exact ⟨⟨i + 1, by omega, by go_num, G2.out, M2.out, R2.out, Z2.out, Y2.out, B2.out, hBr2⟩, by simp [intOf]; omega⟩
    · have c2 : ¬ (i : Int) < (T.length : Int) := by omega
      have e1 : T.take i = T := List.take_of_length_le (by omega)
      rw [e1] at hmr
      have ho := HO.out
      subst ho
      go_wp2_with fail
      go_end0
      exact ⟨rfl, ⟨x, c, b, hgr, hrr, hmr, hB1, hB2⟩, hbr⟩

end Go.Proofs.YtbbgabdiikdjpaaDoor
