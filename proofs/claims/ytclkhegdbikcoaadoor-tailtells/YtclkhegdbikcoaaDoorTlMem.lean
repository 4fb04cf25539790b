/-
  Tails in memory: a struct with a map from keys to values; the walks of New and Put.
-/
import Derived.Test.YtclkhegdbikcoaaDoorKey
import Derived.Test.YtclkhegdbikcoaaDoorForks
import Derived.Deep.Cut
namespace Go.Proofs.YtclkhegdbikcoaaDoor.Tl
open Go.RowKit Go.Deep Go.Maps

/-- A map in a block says of each name that may be what was put last for it. -/
def TailIs (w : World) (b : Nat) (E : List (List ByteArray × Int)) : Prop :=
  ∃ (n : Nat) (D : DataW Unit), w.ownsMap Tryd.prog 9 (plainElem Tryd.prog 3) b n D ∧ n ≤ E.length ∧ IsMap D ∧ Tidy D ∧ Maps.size D = endsT [] E ∧ (∀ e ∈ E, Nm.checkN (e.1.map Nm.bs) = 0) ∧
    ∀ m, Nm.checkN (m.map Nm.bs) = 0 → Maps.has D (kl m) = (valT E m).isSome ∧ ∀ v, valT E m = some v → D.atKey (kl m) (.lit (.int .i64 0)) = .lit (.int .i64 v)

theorem TailIs.empty (w : World) : TailIs (w.alloc (.map #[] 0)) w.heap.size [] := by
  have h : (w.alloc (.map #[] 0)).ownsMap Tryd.prog 9 (plainElem Tryd.prog 3) w.heap.size 0 (.map [] : DataW Unit) := World.ownsMap_made w _ _ _
  exact ⟨0, .map [], h, Nat.le_refl _, isMap_empty, h.tidy law_string, rfl, fun e he => (by simp at he), fun m _ => ⟨rfl, fun p h => by cases h⟩⟩

theorem TailIs.lt {w : World} {b : Nat} {E : List (List ByteArray × Int)} (h : TailIs w b E) : b < w.heap.size := by
  obtain ⟨n, D, ⟨es, clock, hb, _⟩, _⟩ := h
  rcases Nat.lt_or_ge b w.heap.size with q | q
  · exact q
  · rw [Array.getElem?_eq_none q] at hb; cases hb

theorem TailIs.kept {w w' : World} {b : Nat} {E : List (List ByteArray × Int)} (h : TailIs w b E) (k : w'.heap[b]? = w.heap[b]?) : TailIs w' b E := by
  obtain ⟨n, D, ⟨es, clock, hb, r⟩, s⟩ := h
  exact ⟨n, D, ⟨es, clock, by rw [k, hb], r⟩, s⟩

theorem TailIs.below {w w' : World} {b : Nat} {E : List (List ByteArray × Int)} (h : TailIs w b E) (k : Below w.heap.size w w') : TailIs w' b E := h.kept (k.block b h.lt)

/-- One value more. -/
theorem tail_put {D : DataW Unit} {E : List (List ByteArray × Int)} {n : List ByteArray} {v : Int} (hD : IsMap D) (hT : Tidy D) (hk : Nm.checkN (n.map Nm.bs) = 0) (hs : Maps.size D = endsT [] E)
    (h : ∀ m, Nm.checkN (m.map Nm.bs) = 0 → Maps.has D (kl m) = (valT E m).isSome ∧ ∀ p, valT E m = some p → D.atKey (kl m) (.lit (.int .i64 0)) = .lit (.int .i64 p)) :
    Maps.size (D.put (kl n) (.lit (.int .i64 v))) = endsT [] (E ++ [(n, v)]) ∧
    ∀ m, Nm.checkN (m.map Nm.bs) = 0 → Maps.has (D.put (kl n) (.lit (.int .i64 v))) (kl m) = (valT (E ++ [(n, v)]) m).isSome ∧ ∀ p', valT (E ++ [(n, v)]) m = some p' → (D.put (kl n) (.lit (.int .i64 v))).atKey (kl m) (.lit (.int .i64 0)) = .lit (.int .i64 p') := by
  refine ⟨?_, fun m hm => ?_⟩
  · rw [size_put hT, ends_snoc, (h n hk).1, hs]
  · rw [valT_snoc]
    by_cases e : Nm.cN n m = 0
    · have e2 : kl n = kl m := (kl_same hk hm).2 e
      rw [if_pos e, e2]
      refine ⟨by rw [has_put_same hD (kl_lit m)]; rfl, fun p' hp => ?_⟩
      cases hp
      exact atKey_put_same hD (kl_lit m) _ _
    · have hne : kl m ≠ kl n := fun q => e ((kl_same hk hm).1 q.symm)
      rw [if_neg e, has_put_other hne, atKey_put_other hne]
      exact h m hm

/-- Tails in memory. -/
structure TailS (w : World) (tb mb : Nat) (E : List (List ByteArray × Int)) : Prop where
  st : Bl 44 w tb #[.map (some mb)]
  mp : TailIs w mb E

theorem TailS.below {w w' : World} {tb mb : Nat} {E : List (List ByteArray × Int)} (h : TailS w tb mb E) (k : Below w.heap.size w w') : TailS w' tb mb E := ⟨h.st.below k, h.mp.below k⟩

theorem TailS.ne {w : World} {tb mb : Nat} {E : List (List ByteArray × Int)} (h : TailS w tb mb E) : ¬ mb = tb := by
  intro e
  obtain ⟨n, D, ⟨es, clock, hb, _⟩, _⟩ := h.mp
  have k := h.st
  unfold Bl at k
  rw [e, k] at hb
  cases hb

theorem TailS.only {w w' : World} {tb mb : Nat} {E : List (List ByteArray × Int)} (h : TailS w tb mb E) {row : Option Nat} (k : w.grownBy w' row) (h1 : some tb ≠ row) (h2 : some mb ≠ row) : TailS w' tb mb E := by
  refine ⟨?_, h.mp.kept (k.block mb h.mp.lt h2)⟩
  have := k.block tb h.st.lt h1
  have k2 := h.st
  unfold Bl at k2 ⊢
  rw [this, k2]

theorem grown_of {w w' : World} {row : Option Nat} (k : Below w.heap.size w w') : w.grownBy w' row := ⟨k.os, k.tape, k.output, k.size, fun j hj _ => k.block j hj⟩

theorem wp_update {H : Type} {P : Program} (w : World) {o : Oper} {a : Act} {K : Act → World → Prop} {Q : Exit → Act → World → Prop}
    (m x v : Operand) (t : TypeId) (hop : o.op = Op.mapUpdate t m x v)
    (k e : TypeId) (KK : Keyed P k) (ht : P.underlying t = some (.map k e)) (R : Value → Option (DataW H × List MemPlace)) (b n : Nat) (D : DataW H)
    (hm : a.eval m = .map (some b)) (hown : w.ownsMap P k R b n D) (hn : n < maxLen) (key val : Value) (kl : Lit) (hx : a.eval x = key) (hv : a.eval v = val) (hkey : keyOf P k key = some kl)
    (d : DataW H) (ps : List MemPlace) (hval : R val = some (d, ps))
    (hK : ∀ w', w'.ownsMap P k R b (n + 1) (D.put kl d) → w.grownBy w' (some b) → K (a.put o.dst undef) w') : o.wp P a w K Q := by
  obtain ⟨w', hrun, r1, r2⟩ := hown.update KK ht hn hkey hval
  unfold Oper.wp
  simp [execOp, hop, hm, hx, hv, hrun, Result.andThen]
  exact hK w' r1 r2

set_option maxRecDepth 100000 in
theorem tnew_any (w : World) : Calls Tryd.prog 4 #[] w fun e w' => ∃ tb, e = .returned (.pointer (some ⟨tb, 0, none⟩)) ∧ w.heap.size ≤ tb ∧ TailS w' tb w.heap.size [] ∧ Below w.heap.size w w' := by
  have hmm := @run_makeMap Tryd.prog
  have h1 := TailIs.empty w
  have b1 : Below w.heap.size w (w.alloc (.map #[] 0)) := (Below.refl _ _).alloc (Nat.le_refl _) _
  have HT := hid h1
  have HB := hid b1
  have hs : (w.alloc (.map #[] 0)).heap.size = w.heap.size + 1 := by simp
  clear h1 b1
  go_enter Tryd.func4, Tryd.ntmps4
  go_wp2_with fail
  go_ret
  have b2 : Below (w.alloc (.map #[] 0)).heap.size (w.alloc (.map #[] 0)) ((w.alloc (.map #[] 0)).alloc (.cells #[.map (some w.heap.size)] 44)) := (Below.refl _ _).alloc (Nat.le_refl _) _
  exact ⟨(w.alloc (.map #[] 0)).heap.size, by simp, by omega, ⟨Bl.new _ _ _, HT.out.below b2⟩, HB.out.trans (b2.mono (by omega))⟩

set_option maxRecDepth 100000 in
theorem tput_bad {x : Option Addr} {c l tb : Nat} (k : Int) (n : List ByteArray) (v : Int) (w : World) (h : Strs w x c n) (hl : n.length = l) (hk : Nm.checkN (n.map Nm.bs) = k) (k0 : ¬ k = 0) :
    Calls Tryd.prog 7 #[.pointer (some ⟨tb, 0, none⟩), .slice x l c, .int .i64 v] w fun e w' => e = .returned (.iface 26 (.int .i64 k)) ∧ w = w' := by
  have KE := hid (errV_some k0)
  go_enter Tryd.func7, Tryd.ntmps7
  go_wp2_with fail
  refine (check_at (.iface 26 (.int .i64 k)) n _ h hl (by rw [hk]; exact KE.out)).mono ?_
  rintro e w1 ⟨rfl, rfl⟩
  go_wp2_with fail
  go_ret
  exact ⟨rfl, rfl⟩

/-- Worlds in which the struct and its map are as they were. -/
structure AsTail (w : World) (tb : Nat) where
  val : World
  has : val.heap[tb]? = w.heap[tb]?

set_option maxHeartbeats 1000000 in
set_option maxRecDepth 100000 in
theorem tput_good {x : Option Addr} {c l : Nat} (tb mb : Nat) (E : List (List ByteArray × Int)) (n : List ByteArray) (v : Int) (w : World) (hT : TailS w tb mb E) (h : Strs w x c n) (hl : n.length = l) (hk : Nm.checkN (n.map Nm.bs) = 0)
    (hj : E.length ≤ 1000000000) (h0 : -9223372036854775808 ≤ v) (h1 : v ≤ 9223372036854775807) :
    Calls Tryd.prog 7 #[.pointer (some ⟨tb, 0, none⟩), .slice x l c, .int .i64 v] w fun e w' => e = .returned .nilIface ∧ TailS w' tb mb (E ++ [(n, v)]) ∧ w.grownBy w' (some mb) := by
  subst hl
  have hwf : (Lit.int .i64 v).wf = true := WalkArith.wf_i64 ⟨h0, h1⟩
  have HT := hid hT
  have K := hid hk
  have c0 : ∀ s : AsTail w tb, s.val.cell? ⟨tb, 0, none⟩ = some (.map (some mb)) := fun s => by rw [World.cell?_of_block (w := w) s.has]; exact HT.out.st.cell (i := 0) rfl
  have hNe : Nonempty (AsTail w tb) := ⟨⟨w, rfl⟩⟩
  clear hT hk
  go_enter Tryd.func7, Tryd.ntmps7
  go_upto_region 4 with (go_at_call 14; refine (check_at .nilIface n _ h rfl (by rw [K.out]; rfl)).mono ?_; rintro e w1 ⟨rfl, rfl⟩)
  refine wp_region_forkA [0, 1, 2, 3, 4, 6] (.one 5 (.one 7 .nil)) (fun u => ∃ s' : AsTail w tb, u = s'.val) (by kernel_rfl) (by kernel_rfl) (by kernel_rfl) ⟨⟨w.drew, rfl⟩, rfl⟩ ?_
  change wpQuiet _ _ _ _ [_, _, _, _, _, _] _
  repeat (go_big_quiet_step (fail))
  refine wpQuiet_nil ?_
  clear c0 hNe
  change stepL _ _ _ _ _ _ _ _ _
  refine stepL_at (by rfl) fun K' Q' hK => ?_
  go_simp
  refine (keyOf_any n w.drew h rfl K.out).mono ?_
  rintro e w1 ⟨rfl, b1⟩
  have HT1 := hid (HT.out.below (w' := w.drew) ((Below.refl _ w).drew))
  have HT2 := hid (HT1.out.below b1)
  have G1 : Hid (w.grownBy w1 (some mb)) := hid ⟨b1.os, b1.tape, b1.output, b1.size, fun j hj _ => b1.block j hj⟩
  have hs1 : w1.heap[tb]? = w.heap[tb]? := b1.block tb HT1.out.st.lt
  have HS1 := hid hs1
  refine hK _ _ (fun _ => ⟨⟨w1, HS1.out⟩, rfl⟩) ?_
  clear hK b1 hs1
  change stepL _ _ _ _ _ _ _ _ _
  refine stepL_at (by rfl) fun K' Q' hK => ?_
  obtain ⟨en, D, hown, hen, hD, hTi, hsz, hE, hall⟩ := HT2.out.mp
  obtain ⟨P1, P2⟩ := tail_put (v := v) hD hTi K.out hsz hall
  refine wp_update _ _ _ _ 42 rfl 9 3 law_string Tryd.underlying42 (plainElem Tryd.prog 3) mb en D rfl hown (by unfold maxLen; omega) (.string (keyT n)) (.int .i64 v) (kl n) rfl rfl (kl_of K.out) (.lit (.int .i64 v)) [] (plainElem_int Tryd.underlying3 hwf) ?_
  intro w2 hown2 hgr2
  have HT3 : Hid (TailS w2 tb mb (E ++ [(n, v)])) := hid ⟨by
      have := hgr2.block tb HT2.out.st.lt (fun q => HT2.out.ne (by cases q; rfl))
      have k := HT2.out.st
      unfold Bl at k ⊢
      rw [this, k], en + 1, _, hown2, by rw [List.length_append]; exact Nat.add_le_add_right hen 1, hD.put _ _, hown2.tidy law_string, P1, fun e he => by
        rcases List.mem_append.1 he with he | he
        · exact hE e he
        · rw [List.mem_singleton.1 he]; exact K.out, P2⟩
  have G2 : Hid (w.grownBy w2 (some mb)) := hid (G1.out.trans hgr2)
  have hs2 : w2.heap[tb]? = w.heap[tb]? := by
    rw [hgr2.block tb HT2.out.st.lt (fun q => HT2.out.ne (by cases q; rfl)), HS1.out]
  have HS2 := hid hs2
  refine hK _ _ (fun _ => ⟨⟨w2, HS2.out⟩, rfl⟩) ?_
  clear hK hs2 hgr2 hown2 hown P1 P2 hall hE
  refine treeL_nil ?_
  go_wp2
  go_ret
  exact ⟨rfl, HT3.out, G2.out⟩

end Go.Proofs.YtclkhegdbikcoaaDoor.Tl
