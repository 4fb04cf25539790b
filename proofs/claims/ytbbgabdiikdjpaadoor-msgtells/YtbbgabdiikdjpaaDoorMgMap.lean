/-
  The map of a draft: by a name as it is sent, where it begins; and the walk of startsFor.
-/
import Derived.Test.YtbbgabdiikdjpaaDoorMgEnds
import Derived.Maps.OwnSet
import Derived.StringKeys
namespace Go.Proofs.YtbbgabdiikdjpaaDoor
open Go.RowKit Go.Deep Go.Maps

theorem law_string : Keyed Tryd.prog 9 := string_keyed Tryd.underlying9
theorem zero_int (w : World) : (zeroValue 3).run Tryd.prog w = .ok (.int .i64 0) w := by kernel_rfl

theorem ends_len (n : List ByteArray) : (endsL n).length = n.length := by simp [endsL]

/-- A name's key. -/
def keyL (m : List ByteArray) : Lit := .string (keyS m).data.toList

theorem keyL_inj {n m : List ByteArray} (h : Nm.checkN (n.map Nm.bs) = 0) (k : Nm.checkN (m.map Nm.bs) = 0) (e : keyL n = keyL m) : n = m := by
  refine key_inj h k ?_
  unfold keyL at e
  simp only [Lit.string.injEq] at e
  have e2 : (keyS n).data = (keyS m).data := Array.toList_inj.1 e
  rcases hn : keyS n with ⟨a⟩
  rcases hm : keyS m with ⟨b⟩
  rw [hn, hm] at e2
  simp only at e2
  rw [e2]

theorem keyL_of {n : List ByteArray} (h : Nm.checkN (n.map Nm.bs) = 0) : keyOf Tryd.prog 9 (.string (keyS n)) = some (keyL n) :=
  Go.WideMaps.keyOf_string_mk Tryd.underlying9 (by have := key_size h; unfold maxLen; omega)

/-- A map in a block says of each name that may be what the table says. -/
def MapIs (w : World) (b : Nat) (tab : List (Int × List ByteArray)) : Prop :=
  ∃ (n : Nat) (D : DataW Unit), w.ownsMap Tryd.prog 9 (plainElem Tryd.prog 3) b n D ∧ n ≤ tab.length ∧ IsMap D ∧ (∀ e ∈ tab, 0 ≤ e.1 ∧ e.1 ≤ 16383) ∧
    ∀ m, Nm.checkN (m.map Nm.bs) = 0 → Maps.has D (keyL m) = (findT tab m).isSome ∧ ∀ p, findT tab m = some p → D.atKey (keyL m) (.lit (.int .i64 0)) = .lit (.int .i64 p)

theorem MapIs.empty (w : World) : MapIs (w.alloc (.map #[] 0)) w.heap.size [] :=
  ⟨0, .map [], World.ownsMap_made w _ _ _, Nat.le_refl _, isMap_empty, fun e he => by simp at he, fun m _ => ⟨rfl, fun p h => by cases h⟩⟩

theorem MapIs.lt {w : World} {b : Nat} {tab : List (Int × List ByteArray)} (h : MapIs w b tab) : b < w.heap.size := by
  obtain ⟨n, D, ⟨es, clock, hb, _⟩, _⟩ := h
  rcases Nat.lt_or_ge b w.heap.size with q | q
  · exact q
  · rw [Array.getElem?_eq_none q] at hb; cases hb

theorem MapIs.kept {w w' : World} {b : Nat} {tab : List (Int × List ByteArray)} (h : MapIs w b tab) (k : w'.heap[b]? = w.heap[b]?) : MapIs w' b tab := by
  obtain ⟨n, D, ⟨es, clock, hb, r⟩, s⟩ := h
  exact ⟨n, D, ⟨es, clock, by rw [k, hb], r⟩, s⟩

theorem MapIs.below {w w' : World} {b : Nat} {tab : List (Int × List ByteArray)} (h : MapIs w b tab) (k : Below w.heap.size w w') : MapIs w' b tab := h.kept (k.block b h.lt)

theorem MapIs.far {w : World} {b : Nat} {tab : List (Int × List ByteArray)} (h : MapIs w b tab) {p : Addr} (hp : ¬ b = p.block) (v : Value) : MapIs (w.setCell p v) b tab := h.kept (Below.heap_setCell w p v b hp)

theorem keyLit (m : List ByteArray) : WideAt.IsKeyLit (keyL m) := by
  unfold keyL
  simp [WideAt.IsKeyLit]

/-- One more name, that did not stand in the table. -/
theorem map_put {D : DataW Unit} {tab : List (Int × List ByteArray)} {n : List ByteArray} {p : Int} (hD : IsMap D) (hk : Nm.checkN (n.map Nm.bs) = 0) (hn : findT tab n = none)
    (h : ∀ m, Nm.checkN (m.map Nm.bs) = 0 → Maps.has D (keyL m) = (findT tab m).isSome ∧ ∀ p, findT tab m = some p → D.atKey (keyL m) (.lit (.int .i64 0)) = .lit (.int .i64 p)) :
    ∀ m, Nm.checkN (m.map Nm.bs) = 0 → Maps.has (D.put (keyL n) (.lit (.int .i64 p))) (keyL m) = (findT (tab ++ [(p, n)]) m).isSome ∧ ∀ p', findT (tab ++ [(p, n)]) m = some p' → (D.put (keyL n) (.lit (.int .i64 p))).atKey (keyL m) (.lit (.int .i64 0)) = .lit (.int .i64 p') := by
  intro m hm
  rw [findT_append]
  by_cases e : m = n
  · subst e
    rw [hn]
    simp only [findT, if_pos]
    refine ⟨by rw [has_put_same hD (keyLit m)]; rfl, fun p' hp => ?_⟩
    cases hp
    exact atKey_put_same hD (keyLit m) _ _
  · have hne : keyL m ≠ keyL n := fun q => e (keyL_inj hm hk q)
    rw [has_put_other hne, atKey_put_other hne]
    obtain ⟨h1, h2⟩ := h m hm
    cases q : findT tab m with
    | some p0 => rw [q] at h1 h2; exact ⟨h1, h2⟩
    | none =>
      rw [q] at h1
      simp only [findT, if_neg (fun r : n = m => e r.symm)]
      exact ⟨h1, fun p' r => by cases r⟩

def StartsPost (tab : List (Int × List ByteArray)) (n : List ByteArray) (w : World) (e : Ending) (w' : World) : Prop :=
  ∃ z s, e = .returned (.slice z (startsT tab n).length s) ∧ Ints w' z s (startsT tab n) ∧ Below w.heap.size w w'

theorem best_at {tab : List (Int × List ByteArray)} {n : List ByteArray} {i : Nat} {p : Int} (hi : i < n.length) (h : ∀ j, j < i → findT tab (n.drop j) = none) (hp : findT tab (n.drop i) = some p) : bestT tab n = some (i, p) := by
  cases hb : bestT tab n with
  | none => have := best_none hb i hi; rw [hp] at this; cases this
  | some e =>
    obtain ⟨k, q⟩ := e
    obtain ⟨h1, h2, h3⟩ := best_some hb
    rcases Nat.lt_trichotomy i k with r | r | r
    · have := h3 i r; rw [hp] at this; cases this
    · subst r; rw [hp] at h2; cases h2; rfl
    · have := h k r; rw [h2] at this; cases this

theorem best_not {tab : List (Int × List ByteArray)} {n : List ByteArray} (h : ∀ j, j < n.length → findT tab (n.drop j) = none) : bestT tab n = none := by
  cases hb : bestT tab n with
  | none => rfl
  | some e =>
    obtain ⟨k, q⟩ := e
    obtain ⟨h1, h2, _⟩ := best_some hb
    have := h k h1
    rw [h2] at this
    cases this

set_option maxHeartbeats 1000000 in
set_option maxRecDepth 100000 in
theorem starts_any {z : Option Addr} {s l : Nat} (g b : Nat) (v vf : Value) (tab : List (Int × List ByteArray)) (n : List ByteArray) (w : World) (hz : Strs w z s (endsL n)) (hl : n.length = l) (hk : Nm.checkN (n.map Nm.bs) = 0)
    (hg : Bl 104 w g #[v, .map (some b), vf]) (hm : MapIs w b tab) :
    Calls Tryd.prog 65 #[.pointer (some ⟨g, 0, none⟩), .slice z l s] w (StartsPost tab n w) := by
  subst hl
  have h254 := check_len hk
  rw [List.length_map] at h254
  have K := hid hk
  obtain ⟨en, D, hown, _, hD, hbd, hall⟩ := hm
  have c0 := hg.cell (i := 1) rfl
  have HA := hid hall
  have HB := hid hbd
  clear hk hall hbd
  go_enter Tryd.func65, Tryd.ntmps65
  go_wp2_with fail
  go_loopw [11] (fun vi wr => ∃ i : Nat, i ≤ n.length ∧ vi = .int .i64 (i : Int) ∧ (∀ j, j < i → findT tab (n.drop j) = none) ∧ wr = w) (fun i _ => n.length - (intOf i).toNat)
  case atStart => exact ⟨0, Nat.zero_le _, rfl, fun j hj => by omega, by trivial⟩
  case round =>
    obtain ⟨i, hi, rfl, hno, rfl⟩ := hrel
    by_cases c1 : i < n.length
    · obtain ⟨b0, o0, rfl, hb0, q0⟩ : ∃ b off, z = some ⟨b, off, none⟩ ∧ b < wr.heap.size ∧ ∀ i, i < (endsL n).length → wr.cell? ⟨b, off + i, none⟩ = some (.string ((endsL n).getD i ByteArray.empty)) := by
        rcases hz.2.2.2 with hd | hd
        · have h0 : (endsL n).length = 0 := by rw [hd]; rfl
          rw [ends_len] at h0
          omega
        · exact hd
      have q1 := q0 i (by rw [ends_len]; exact c1)
      rw [ends_get c1] at q1
      have kd := check_drop K.out i
      have hkey := keyL_of kd
      obtain ⟨hh, hat⟩ := HA.out _ kd
      have HN := hid hno
      have HH := hid hh
      have HT := hid hat
      have c2 : (i : Int) < (n.length : Int) := by omega
      clear q0 hno hh hat kd
      cases q : findT tab (n.drop i) with
      | some p =>
        have hb := hid (best_at c1 HN.out q)
        obtain ⟨p0, p1⟩ := HB.out _ (findT_some q)
        simp only at p0 p1
        have hat := HT.out p q
        have hh := HH.out
        rw [q] at hh
        simp only [Option.isSome_some] at hh
        have HAT := hid hat
        clear HT HH q hat
        go_wp2_with (first
          | (at_lookup; refine wpList_lookup_own_ok_int _ rfl _ _ 102 rfl 9 3 .i64 law_string Tryd.underlying102 Tryd.underlying3 (zero_int _) b en D rfl hown _ _ rfl hkey ?_; intro c hat hwc; rw [HAT.out] at hat; simp only [DataW.lit.injEq, Lit.int.injEq, true_and] at hat; subst hat)
          | fail)
        go_ret
        have e : startsT tab n = [p] := by unfold startsT; rw [hb.out]
        unfold StartsPost
        rw [e]
        exact ⟨_, _, rfl, ⟨by simp, by simp, fun z hz => by rw [List.mem_singleton.1 hz]; omega, Or.inr ⟨wr.heap.size, 0, rfl, by simp, fun j hj => by
          have : j = 0 := by simp at hj; omega
          subst this
          rw [World.cell?_alloc_at _ _ _ _ rfl]
          rfl⟩⟩, (Below.refl _ wr).alloc (Nat.le_refl _) _⟩
      | none =>
        have hh := HH.out
        rw [q] at hh
        simp only [Option.isSome_none] at hh
        have HQ := hid q
        clear HT HH q
        go_wp2_with (first
          | (at_lookup; refine wpList_lookup_own_ok_int _ rfl _ _ 102 rfl 9 3 .i64 law_string Tryd.underlying102 Tryd.underlying3 (zero_int _) b en D rfl hown _ _ rfl hkey ?_; intro c hat hwc; clear hat)
          | fail)
        exact ⟨⟨i + 1, by omega, by go_num, fun j hj => by
          rcases Nat.lt_or_ge j i with r | r
          · exact HN.out j r
          · have : j = i := by omega
            rw [this]; exact HQ.out, by trivial⟩, by simp [intOf]; omega⟩
    · have c2 : ¬ (i : Int) < (n.length : Int) := by omega
      have hb := hid (best_not (fun j hj => hno j (by omega)))
      clear hno
      go_wp2_with fail
      go_ret
      have e : startsT tab n = [] := by unfold startsT; rw [hb.out]
      unfold StartsPost
      rw [e]
      exact ⟨none, 0, rfl, Ints.nil _ none 0, Below.refl _ _⟩

set_option maxHeartbeats 1000000 in
set_option maxRecDepth 100000 in
theorem starts_full {z : Option Addr} {s l : Nat} (g : Nat) (v vf : Value) (n : List ByteArray) (w : World) (hz : Strs w z s (endsL n)) (hl : n.length = l) (hk : Nm.checkN (n.map Nm.bs) = 0) (hg : Bl 104 w g #[v, .map none, vf]) :
    Calls Tryd.prog 65 #[.pointer (some ⟨g, 0, none⟩), .slice z l s] w fun e w' => e = .returned (.slice none 0 0) ∧ w = w' := by
  subst hl
  have h254 := check_len hk
  rw [List.length_map] at h254
  have K := hid hk
  have c0 := hg.cell (i := 1) rfl
  clear hk
  go_enter Tryd.func65, Tryd.ntmps65
  go_wp2_with fail
  go_loopw [11] (fun vi wr => ∃ i : Nat, i ≤ n.length ∧ vi = .int .i64 (i : Int) ∧ wr = w) (fun i _ => n.length - (intOf i).toNat)
  case atStart => exact ⟨0, Nat.zero_le _, rfl, by trivial⟩
  case round =>
    obtain ⟨i, hi, rfl, rfl⟩ := hrel
    by_cases c1 : i < n.length
    · obtain ⟨b0, o0, rfl, hb0, q0⟩ : ∃ b off, z = some ⟨b, off, none⟩ ∧ b < wr.heap.size ∧ ∀ i, i < (endsL n).length → wr.cell? ⟨b, off + i, none⟩ = some (.string ((endsL n).getD i ByteArray.empty)) := by
        rcases hz.2.2.2 with hd | hd
        · have h0 : (endsL n).length = 0 := by rw [hd]; rfl
          rw [ends_len] at h0
          omega
        · exact hd
      have q1 := q0 i (by rw [ends_len]; exact c1)
      rw [ends_get c1] at q1
      have hrun := Go.Maps.look_nil (w := wr) true law_string Tryd.underlying102 (zero_int _) (keyL_of (check_drop K.out i))
      have c2 : (i : Int) < (n.length : Int) := by omega
      clear q0
      go_wp2_with fail
      exact ⟨⟨i + 1, by omega, by go_num, by trivial⟩, by simp [intOf]; omega⟩
    · have c2 : ¬ (i : Int) < (n.length : Int) := by omega
      go_wp2_with fail
      go_ret
      exact ⟨rfl, rfl⟩

end Go.Proofs.YtbbgabdiikdjpaaDoor
