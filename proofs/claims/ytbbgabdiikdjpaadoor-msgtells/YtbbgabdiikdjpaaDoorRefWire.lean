/-
  The walk of the document's own answer nameFrom, which calls itself: what it tells is what the plain function tells; it makes its own memory, and writes nothing that was there.
-/
import Derived.Test.YtbbgabdiikdjpaaDoorMsgAt
import Derived.Deep.AppendLies
import Derived.Deep.RegionLaw
import Derived.BigRegion
namespace Go.Proofs.YtbbgabdiikdjpaaDoor
open Go.RowKit Go.Deep

def FromPost (r : Int × List (List Int) × Nat) (size : Nat) (w : World) (e : Ending) (w' : World) : Prop :=
  ∃ (y : Option Addr) (q : Nat) (Ls : List ByteArray) (nx : Int), e = .returned (.agg #[.slice y Ls.length q, .int .i64 nx, .int .i64 r.1]) ∧ Strs w' y q Ls ∧ (Ls = [] → y = none ∧ q = 0) ∧ Ls.length + size ≤ 256 ∧ (r.1 = 0 → Ls = r.2.1.map strOfNums ∧ nx = (r.2.2 : Int)) ∧ Below w.heap.size w w' ∧ ∀ a, y = some a → w.heap.size ≤ a.block

theorem fromPost_leaf {r : Int × List (List Int) × Nat} {size : Nat} {w w' : World} {k nx : Int} (hs : size ≤ 255) (hk : r.1 = k) (h : r.1 = 0 → r.2.1 = [] ∧ nx = (r.2.2 : Int)) (hb : Below w.heap.size w w') : FromPost r size w (.returned (.agg #[.slice none 0 0, .int .i64 nx, .int .i64 k])) w' := by
  subst hk
  exact ⟨none, 0, [], nx, rfl, Strs.empty w', fun _ => ⟨rfl, rfl⟩, by simp; omega, fun q => ⟨by rw [(h q).1]; rfl, (h q).2⟩, hb, fun a q => by cases q⟩

theorem Strs.setCell {w : World} {x : Option Addr} {c : Nat} {ss : List ByteArray} (h : Strs w x c ss) (p : Addr) (v : Value) (hne : ∀ a, x = some a → ¬ a.block = p.block) : Strs (w.setCell p v) x c ss := by
  obtain ⟨h1, h2, h3, h4⟩ := h
  refine ⟨h1, h2, h3, ?_⟩
  rcases h4 with h4 | ⟨b, off, hx, hb, hc⟩
  · exact Or.inl h4
  · refine Or.inr ⟨b, off, hx, by simpa using hb, fun i hi => ?_⟩
    rw [World.cell?_setCell_other]
    · exact hc i hi
    · intro q
      have := hne _ hx
      rw [q] at this
      exact this rfl

theorem ends_first (e : Nat) (r : Int × List (List Int) × Nat) : (Nm.ends e r).1 = r.1 := by
  unfold Nm.ends
  by_cases c : r.1 = 0
  · rw [if_pos c]; exact c.symm
  · rw [if_neg c]

theorem ahead_first (l : List Int) (r : Int × List (List Int) × Nat) : (Nm.ahead l r).1 = r.1 := by
  unfold Nm.ahead
  by_cases c : r.1 = 0
  · rw [if_pos c]; exact c.symm
  · rw [if_neg c]

theorem fromPost_ptr {r : Int × List (List Int) × Nat} {size : Nat} {w w' : World} {y : Option Addr} {q e : Nat} {Ls : List ByteArray} {k z nx : Int} (hk : r.1 = k) (hst : Strs w' y q Ls) (hnil : Ls = [] → y = none ∧ q = 0) (hlen : Ls.length + size ≤ 256) (hok : r.1 = 0 → Ls = r.2.1.map strOfNums ∧ nx = (r.2.2 : Int)) (hz : z = (e : Int)) (hb : Below w.heap.size w w') (hf : ∀ a, y = some a → w.heap.size ≤ a.block) :
    FromPost (Nm.ends e r) size w (.returned (.agg #[.slice y Ls.length q, .int .i64 z, .int .i64 k])) w' := by
  subst hk hz
  refine ⟨y, q, Ls, e, by rw [ends_first], hst, hnil, hlen, fun c => ?_, hb, hf⟩
  rw [ends_first] at c
  unfold Nm.ends
  rw [if_pos c]
  exact ⟨(hok c).1, rfl⟩

theorem owns_one (w : World) (v : Value) (e : Nat) : (w.alloc (.cells #[v] e)).ownsRow w.heap.size e 1 (.slice (some ⟨w.heap.size, 0, none⟩) 1 1) 1 [v] :=
  ⟨rfl, .inr ⟨w.heap.size, 1, #[v], rfl, Nat.le_refl _, heap_alloc_new w _, Nat.le_refl _, by unfold maxLen; omega, rfl, rfl⟩⟩

theorem owns_strs {w : World} {B g n cap : Nat} {ss : List ByteArray} {ys : List Value} (h : w.ownsRow B 9 1 (.slice (some ⟨g, 0, none⟩) n cap) n ys) (hy : ys = ss.map Value.string) (hn : ss.length = n) (hl : n ≤ 1020) (hs : ∀ s ∈ ss, s.size ≤ 140737488355328) : Strs w (some ⟨g, 0, none⟩) cap ss := by
  subst hn hy
  obtain ⟨_, h3⟩ := h
  rcases h3 with ⟨h4, _⟩ | ⟨g', cap', cur, hv, _, hh, hc, _, hs', ht⟩
  · cases h4
  · cases hv
    refine ⟨hc, by omega, hs, Or.inr ⟨g, 0, rfl, ?_, fun i hi => ?_⟩⟩
    · rcases Nat.lt_or_ge g w.heap.size with q | q
      · exact q
      · rw [Array.getElem?_eq_none q] at hh; simp at hh
    · rw [Nat.zero_add]
      simp only [World.cell?, hh]
      have e : (cur.toList.take (ss.length * 1))[i]? = (ss.map Value.string)[i]? := by rw [ht]
      rw [List.getElem?_take, if_pos (by omega), List.getElem?_map, List.getElem?_eq_getElem hi] at e
      simp [List.getD_eq_getElem?_getD, List.getElem?_eq_getElem hi]
      simpa using e

theorem strs_newsW {w : World} {ad : Addr} {c : Nat} {ss : List ByteArray} (h : Strs w (some ad) c ss) : ∀ j u, (ss.map Value.string)[j]? = some u → w.cell? (ad.add j) = some u := by
  intro j u hu
  rw [List.getElem?_map] at hu
  cases e : ss[j]? with
  | none => rw [e] at hu; simp at hu
  | some s =>
    rw [e] at hu
    simp at hu
    have hj : j < ss.length := by
      rcases Nat.lt_or_ge j ss.length with k | k
      · exact k
      · rw [List.getElem?_eq_none k] at e; simp at e
    rcases h.2.2.2 with q | ⟨b, off, hx, _, hc⟩
    · rw [q] at hj; simp at hj
    · cases hx
      rw [Go.WideShapes.add_plain, hc j hj, List.getD_eq_getElem?_getD, e]
      simp [hu]

theorem one_strings (ss : List ByteArray) : ∀ u ∈ ss.map Value.string, u.oneCell' = true := by
  intro u hu
  obtain ⟨n, _, rfl⟩ := List.mem_map.1 hu
  rfl

theorem fromPost_label {r : Int × List (List Int) × Nat} {size k : Nat} {w w' : World} {y : Option Addr} {q m : Nat} {Ls : List ByteArray} {l : List Int} {T : ByteArray} {rk nx : Int} (hk : r.1 = rk) (hT : strOfNums l = T) (hm : m = (T :: Ls).length) (hst : Strs w' y q (T :: Ls)) (hlen : Ls.length + (size + (k + 1)) ≤ 256) (hok : r.1 = 0 → Ls = r.2.1.map strOfNums ∧ nx = (r.2.2 : Int)) (hb : Below w.heap.size w w') (hf : ∀ a, y = some a → w.heap.size ≤ a.block) :
    FromPost (Nm.ahead l r) size w (.returned (.agg #[.slice y m q, .int .i64 nx, .int .i64 rk])) w' := by
  subst hk hT hm
  refine ⟨y, q, _, nx, by rw [ahead_first], hst, fun e => by simp at e, by simp; omega, fun c => ?_, hb, hf⟩
  rw [ahead_first] at c
  unfold Nm.ahead
  rw [if_pos c]
  exact ⟨by rw [(hok c).1]; rfl, (hok c).2⟩

theorem step_append_zero {P : Program} {w : World} {ops : Array Oper} {o : Oper} {a : Act} {K : Act → World → Prop} {Q : Exit → Act → World → Prop} {E : Prop} (hgd : o.guard = none) (s x : Operand) (t : TypeId)
    (ho : o.op = .call { callee := .builtin .append, args := #[s, x], argTypes := #[t, t] }) (v u : Value) (hs : a.eval s = v) (hx : a.eval x = u)
    (hr : (Builtin.append_ #[t, t] o.type #[v, u]).run P w = .ok v w) (h : K (a.put o.dst v) w) :
    if Region.wanted o (yielded ops a.tmps) = true then Oper.wp P o a w K Q else E := by
  have hw : Region.wanted o (yielded ops a.tmps) = true := by simp [Region.wanted, hgd]
  rw [if_pos hw]
  unfold Oper.wp execOp
  simp only [ho, resolve, invoke, builtin, Sem.run_bind, Sem.run_pure, Result.andThen_ok, List.map_toArray, List.map_cons, List.map_nil, hs, hx, hr]
  exact h

set_option maxHeartbeats 1000000 in
set_option maxRecDepth 100000 in
theorem nameFrom_any (x : Option Addr) (c : Nat) (ms : List Int) : ∀ (f a low size : Nat) (w : World), Bys w x c ms → Nm.fu ms a low ≤ f → 1 ≤ size → size ≤ 255 → a ≤ 9223372036854775807 → low ≤ 9223372036854775807 →
    Calls Tryd.prog 52 #[.slice x ms.length c, .int .i64 (a : Int), .int .i64 (low : Int), .int .i64 (size : Int)] w (FromPost (Nm.rdA ms a low size) size w) := by
  intro f
  induction f with
  | zero => intro a low size w _ hf; unfold Nm.fu at hf; omega
  | succ f ih =>
    intro a low size w h hf hs1 hs2 ha hlo
    have hl : ms.length ≤ 200000000000000 := h.2.1
    have R := Nm.rdA_eq ms a low size
    obtain ⟨i0, hi, gz0, gz1, gz2⟩ := info_parts info_string
    by_cases c1 : ms.length ≤ a
    · rw [if_pos c1] at R
      have R1 := hid R
      clear R
      go_enter Tryd.func52, Tryd.ntmps52
      go_wp2_with fail
      refine bodyPost_ret (v := .agg #[.slice none 0 0, .int .i64 0, .int .i64 2]) (by simp [results, Tryd.results52, go_sem]) rfl ?_
      rw [R1.out]
      exact fromPost_leaf hs2 rfl (fun q => by simp at q) (by repeat (first | exact Below.refl _ _ | refine Below.setCell ?_ (Nat.le_refl _) _ | refine Below.alloc ?_ (by simp <;> omega) _))
    · rw [if_neg c1] at R
      have c1' : a < ms.length := by omega
      have hb := getD_byte h.2.2.1 a
      have hb2 := getD_byte h.2.2.1 (a + 1)
      obtain ⟨hc, _, hbs, hd⟩ := id h
      rcases hd with hd | ⟨b, off, rfl, hlt, q⟩
      · rw [hd] at c1'; simp at c1'
      have q0 := q a c1'
      by_cases c2 : ms.getD a 0 = 0
      · rw [if_pos c2] at R
        have R1 := hid R
        rw [c2] at q0
        clear R c2 hb hb2 q
        go_enter Tryd.func52, Tryd.ntmps52
        go_wp2_with fail
        refine bodyPost_ret (v := .agg #[.slice none 0 0, .int .i64 ((a : Int) + 1), .int .i64 0]) (by simp [results, Tryd.results52, go_sem]) rfl ?_
        rw [R1.out]
        exact fromPost_leaf hs2 rfl (fun _ => ⟨rfl, by simp⟩) (by repeat (first | exact Below.refl _ _ | refine Below.setCell ?_ (Nat.le_refl _) _ | refine Below.alloc ?_ (by simp <;> omega) _))
      · rw [if_neg c2] at R
        have c2' : (ms.getD a 0 == 0) = false := beq_eq_false_iff_ne.2 c2
        by_cases c3 : 192 ≤ ms.getD a 0
        · rw [if_pos c3] at R
          by_cases c4 : ms.length ≤ a + 1
          · rw [if_pos c4] at R
            have R1 := hid R
            clear R q
            generalize ms.getD a 0 = s at *
            obtain ⟨hb0, hb1⟩ := hb
            go_enter Tryd.func52, Tryd.ntmps52
            go_wp2_with fail
            refine bodyPost_ret (v := .agg #[.slice none 0 0, .int .i64 0, .int .i64 2]) (by simp [results, Tryd.results52, go_sem]) rfl ?_
            rw [R1.out]
            exact fromPost_leaf hs2 rfl (fun q => by simp at q) (by repeat (first | exact Below.refl _ _ | refine Below.setCell ?_ (Nat.le_refl _) _ | refine Below.alloc ?_ (by simp <;> omega) _))
          · rw [if_neg c4] at R
            have q1 := q (a + 1) (by omega)
            have hp : ((Nm.place ms a : Nat) : Int) = (ms.getD a 0 - 192) * 256 + ms.getD (a + 1) 0 := by unfold Nm.place; omega
            by_cases c5 : low ≤ Nm.place ms a
            · rw [if_pos c5] at R
              have R1 := hid R
              have c5' : (low : Int) ≤ (ms.getD a 0 - 192) * 256 + ms.getD (a + 1) 0 := by omega
              clear R q
              generalize Nm.place ms a = p at *
              generalize ms.getD a 0 = s at *
              generalize ms.getD (a + 1) 0 = t at *
              obtain ⟨hb0, hb1⟩ := hb
              obtain ⟨hb3, hb4⟩ := hb2
              have HP := hid hp
              clear hp
              go_enter Tryd.func52, Tryd.ntmps52
              go_wp2_with fail
              refine bodyPost_ret (v := .agg #[.slice none 0 0, .int .i64 0, .int .i64 4]) (by simp [results, Tryd.results52, go_sem]) rfl ?_
              rw [R1.out]
              exact fromPost_leaf hs2 rfl (fun q => by simp at q) (by repeat (first | exact Below.refl _ _ | refine Below.setCell ?_ (Nat.le_refl _) _ | refine Below.alloc ?_ (by simp <;> omega) _))
            · rw [if_neg c5] at R
              have R1 := hid R
              have c5' : ¬ (low : Int) ≤ (ms.getD a 0 - 192) * 256 + ms.getD (a + 1) 0 := by omega
              have hfu := Nm.fu_ptr ms a low (Nm.place ms a) (by omega)
              clear R q
              generalize Nm.place ms a = p at *
              generalize ms.getD a 0 = s at *
              generalize ms.getD (a + 1) 0 = t at *
              obtain ⟨hb0, hb1⟩ := hb
              obtain ⟨hb3, hb4⟩ := hb2
              have HP := hid hp
              have hpl : p ≤ 9223372036854775807 := by omega
              clear hp
              go_enter Tryd.func52, Tryd.ntmps52
              go_wp2_with fail
              rw [← HP.out]
              refine (ih p p size _ (h.below ((Below.refl _ w).alloc (Nat.le_refl _) _)) (by omega) hs1 hs2 hpl hpl).mono fun e w1 hq => ?_
              obtain ⟨y, qq, Ls, nx, rfl, hst, hnil, hlen, hok, b1, hfr⟩ := hq
              have k0 : w1.cell? ⟨w.heap.size, 0, none⟩ = some (.slice none 0 0) := by rw [b1.cell (p := ⟨w.heap.size, 0, none⟩) (by simp), World.cell?_alloc_at _ _ _ _ rfl]; rfl
              have k1 : w1.cell? ⟨w.heap.size, 1, none⟩ = some (.int .i64 0) := by rw [b1.cell (p := ⟨w.heap.size, 1, none⟩) (by simp), World.cell?_alloc_at _ _ _ _ rfl]; rfl
              have k2 : w1.cell? ⟨w.heap.size, 2, none⟩ = some (.int .i64 0) := by rw [b1.cell (p := ⟨w.heap.size, 2, none⟩) (by simp), World.cell?_alloc_at _ _ _ _ rfl]; rfl
              have z0 : w1.frozen? ⟨w.heap.size, 0, none⟩ = false := by rw [b1.frozen (p := ⟨w.heap.size, 0, none⟩) (by simp)]; simp [go_sem]
              have z1 : w1.frozen? ⟨w.heap.size, 1, none⟩ = false := by rw [b1.frozen (p := ⟨w.heap.size, 1, none⟩) (by simp)]; simp [go_sem]
              have z2 : w1.frozen? ⟨w.heap.size, 2, none⟩ = false := by rw [b1.frozen (p := ⟨w.heap.size, 2, none⟩) (by simp)]; simp [go_sem]
              have hw1 : w.heap.size < w1.heap.size := by have := b1.size; simp at this; omega
              have hfr2 : ∀ a, y = some a → w.heap.size < a.block := fun a q => by have := hfr a q; simp at this; omega
              have B1 : Below w.heap.size w w1 := grown_on ((Below.refl _ w).alloc (Nat.le_refl _) _) b1
              have BB := hid B1
              have FR := hid hfr2
              have HST := hid hst
              have HOK := hid hok
              have HNIL := hid hnil
              clear hst hok b1 B1 hfr hfr2
              obtain ⟨rk, hrk⟩ : ∃ rk, (Nm.rdA ms p p size).1 = rk := ⟨_, rfl⟩
              rw [hrk]
              have HRK := hid hrk
              clear hrk hnil
              go_wp2_with fail
              refine bodyPost_ret (v := .agg #[.slice y Ls.length qq, .int .i64 ((a : Int) + 2), .int .i64 rk]) (by simp [results, Tryd.results52, go_sem, k0, k1, k2, hw1]) rfl ?_
              rw [R1.out]
              refine fromPost_ptr HRK.out ?_ HNIL.out hlen HOK.out (by simp) ?_ (fun a q => Nat.le_of_lt (FR.out a q))
              · refine Strs.below ?_ ((Below.refl _ _).alloc (Nat.le_refl _) _)
                refine Strs.setCell (Strs.setCell (Strs.setCell HST.out _ _ ?_) _ _ ?_) _ _ ?_ <;> exact fun a q e => by have := FR.out a q; simp at e; omega
              · exact (((BB.out.setCell (Nat.le_refl _) _).setCell (Nat.le_refl _) _).setCell (Nat.le_refl _) _).alloc (by simp; omega) _
        · rw [if_neg c3] at R
          have hlng : ((Nm.long ms a : Nat) : Int) = ms.getD a 0 := by unfold Nm.long; omega
          by_cases c4 : 63 < ms.getD a 0
          · rw [if_pos c4] at R
            have R1 := hid R
            clear R q hlng
            generalize ms.getD a 0 = s at *
            obtain ⟨hb0, hb1⟩ := hb
            go_enter Tryd.func52, Tryd.ntmps52
            go_wp2_with fail
            refine bodyPost_ret (v := .agg #[.slice none 0 0, .int .i64 0, .int .i64 3]) (by simp [results, Tryd.results52, go_sem]) rfl ?_
            rw [R1.out]
            exact fromPost_leaf hs2 rfl (fun q => by simp at q) (by repeat (first | exact Below.refl _ _ | refine Below.setCell ?_ (Nat.le_refl _) _ | refine Below.alloc ?_ (by simp <;> omega) _))
          · rw [if_neg c4] at R
            by_cases c5 : ms.length ≤ a + Nm.long ms a
            · rw [if_pos c5] at R
              have R1 := hid R
              have c5' : (ms.length : Int) < (a : Int) + 1 + ms.getD a 0 := by omega
              clear R q hlng c5
              generalize ms.getD a 0 = s at *
              obtain ⟨hb0, hb1⟩ := hb
              go_enter Tryd.func52, Tryd.ntmps52
              go_wp2_with fail
              refine bodyPost_ret (v := .agg #[.slice none 0 0, .int .i64 0, .int .i64 2]) (by simp [results, Tryd.results52, go_sem]) rfl ?_
              rw [R1.out]
              exact fromPost_leaf hs2 rfl (fun q => by simp at q) (by repeat (first | exact Below.refl _ _ | refine Below.setCell ?_ (Nat.le_refl _) _ | refine Below.alloc ?_ (by simp <;> omega) _))
            · rw [if_neg c5] at R
              by_cases c6 : 255 < size + (Nm.long ms a + 1)
              · rw [if_pos c6] at R
                have R1 := hid R
                have c5' : ¬ (ms.length : Int) < (a : Int) + 1 + ms.getD a 0 := by omega
                have c6' : (255 : Int) < (size : Int) + ms.getD a 0 + 1 := by omega
                clear R q hlng c5 c6
                generalize ms.getD a 0 = s at *
                obtain ⟨hb0, hb1⟩ := hb
                go_enter Tryd.func52, Tryd.ntmps52
                go_wp2_with fail
                refine bodyPost_ret (v := .agg #[.slice none 0 0, .int .i64 0, .int .i64 5]) (by simp [results, Tryd.results52, go_sem]) rfl ?_
                rw [R1.out]
                exact fromPost_leaf hs2 rfl (fun q => by simp at q) (by repeat (first | exact Below.refl _ _ | refine Below.setCell ?_ (Nat.le_refl _) _ | refine Below.alloc ?_ (by simp <;> omega) _))
              · rw [if_neg c6] at R
                have hfu := Nm.fu_more ms a low (Nm.long ms a) c1'
                have hcl : (Nm.cut ms (a + 1) (Nm.long ms a)).length = Nm.long ms a := Nm.cut_length (by omega)
                have hcut : ∀ i, i < Nm.long ms a → w.cell? ⟨b, off + (a + 1) + i, none⟩ = some (.int .u8 ((Nm.cut ms (a + 1) (Nm.long ms a)).getD i 0)) := fun i hi => by rw [cut_getD hi, Nat.add_assoc]; exact q _ (by omega)
                generalize Nm.cut ms (a + 1) (Nm.long ms a) = l at *
                generalize Nm.long ms a = k at *
                generalize ms.getD a 0 = s at *
                have R1 := hid R
                have HC := hid hcut
                have HL := hid hcl
                clear R q hcut hcl
                subst hlng
                obtain ⟨hb0, hb1⟩ := hb
                have c5' : ¬ (ms.length : Int) < (a : Int) + 1 + (k : Int) := by omega
                have c6' : ¬ (255 : Int) < (size : Int) + (k : Int) + 1 := by omega
                go_enter Tryd.func52, Tryd.ntmps52
                go_wp2_with fail
                rw [show (a : Int) + 1 + (k : Int) = ((a + 1 + k : Nat) : Int) by omega, show (size : Int) + (k : Int) + 1 = ((size + (k + 1) : Nat) : Int) by omega]
                refine (ih (a + 1 + k) low (size + (k + 1)) _ (h.below ((Below.refl _ w).alloc (Nat.le_refl _) _)) (by omega) (by omega) (by omega) (by omega) hlo).mono fun e w1 hq => ?_
                obtain ⟨y, qq, Ls, nx, rfl, hst, hnil, hlen, hok, b1, hfr⟩ := hq
                have k0 : w1.cell? ⟨w.heap.size, 0, none⟩ = some (.slice none 0 0) := by rw [b1.cell (p := ⟨w.heap.size, 0, none⟩) (by simp), World.cell?_alloc_at _ _ _ _ rfl]; rfl
                have k1 : w1.cell? ⟨w.heap.size, 1, none⟩ = some (.int .i64 0) := by rw [b1.cell (p := ⟨w.heap.size, 1, none⟩) (by simp), World.cell?_alloc_at _ _ _ _ rfl]; rfl
                have k2 : w1.cell? ⟨w.heap.size, 2, none⟩ = some (.int .i64 0) := by rw [b1.cell (p := ⟨w.heap.size, 2, none⟩) (by simp), World.cell?_alloc_at _ _ _ _ rfl]; rfl
                have z0 : w1.frozen? ⟨w.heap.size, 0, none⟩ = false := by rw [b1.frozen (p := ⟨w.heap.size, 0, none⟩) (by simp)]; simp [go_sem]
                have z1 : w1.frozen? ⟨w.heap.size, 1, none⟩ = false := by rw [b1.frozen (p := ⟨w.heap.size, 1, none⟩) (by simp)]; simp [go_sem]
                have z2 : w1.frozen? ⟨w.heap.size, 2, none⟩ = false := by rw [b1.frozen (p := ⟨w.heap.size, 2, none⟩) (by simp)]; simp [go_sem]
                have hw1 : w.heap.size < w1.heap.size := by have := b1.size; simp at this; omega
                have hfr2 : ∀ a, y = some a → w.heap.size < a.block := fun a q => by have := hfr a q; simp at this; omega
                have B1 : Below w.heap.size w w1 := grown_on ((Below.refl _ w).alloc (Nat.le_refl _) _) b1
                have BB := hid B1
                have FR := hid hfr2
                have HST := hid hst
                have HOK := hid hok
                have HNIL := hid hnil
                clear hst hok b1 B1 hfr hfr2
                obtain ⟨rk, hrk⟩ : ∃ rk, (Nm.rdA ms (a + 1 + k) low (size + (k + 1))).1 = rk := ⟨_, rfl⟩
                rw [hrk]
                have HRK := hid hrk
                clear hrk hnil
                go_wp2_with fail
                have hne : ¬ c = a + 1 := by omega
                obtain ⟨W1, hW1⟩ : ∃ W1, w1.alloc (.cells #[.slice y Ls.length qq, .int .i64 nx, .int .i64 rk] 62) = W1 := ⟨_, rfl⟩
                have f0 : W1.cell? ⟨w1.heap.size, 0, none⟩ = some (.slice y Ls.length qq) := by rw [← hW1, World.cell?_alloc_at _ _ _ _ rfl]; rfl
                have f1 : W1.cell? ⟨w1.heap.size, 1, none⟩ = some (.int .i64 nx) := by rw [← hW1, World.cell?_alloc_at _ _ _ _ rfl]; rfl
                have f2 : W1.cell? ⟨w1.heap.size, 2, none⟩ = some (.int .i64 rk) := by rw [← hW1, World.cell?_alloc_at _ _ _ _ rfl]; rfl
                have z3 : W1.frozen? ⟨w1.heap.size, 0, none⟩ = false := by rw [← hW1]; simp [go_sem]
                have b2 : Below w1.heap.size w1 W1 := by rw [← hW1]; exact (Below.refl _ _).alloc (Nat.le_refl _) _
                have lt1 : w1.heap.size < W1.heap.size := by rw [← hW1]; simp
                have lt0 : w.heap.size < W1.heap.size := by omega
                rw [hW1]
                rw [← b2.cell (p := ⟨w.heap.size, 0, none⟩) hw1] at k0
                rw [← b2.cell (p := ⟨w.heap.size, 1, none⟩) hw1] at k1
                rw [← b2.cell (p := ⟨w.heap.size, 2, none⟩) hw1] at k2
                rw [← b2.frozen (p := ⟨w.heap.size, 0, none⟩) hw1] at z0
                rw [← b2.frozen (p := ⟨w.heap.size, 1, none⟩) hw1] at z1
                rw [← b2.frozen (p := ⟨w.heap.size, 2, none⟩) hw1] at z2
                have BB2 := hid (grown_on BB.out b2)
                have HST2 := hid (HST.out.below b2)
                have hconv : (convert 22 9 (.slice (some ⟨b, off + (a + 1), none⟩) k (c - (a + 1)))).run Tryd.prog W1.drew = .ok (.string (strOfNums l)) W1.drew :=
                  run_convert_bytes_arg (P := Tryd.prog) W1.drew 22 5 Tryd.underlying22 Tryd.underlying5 b (off + (a + 1)) k (c - (a + 1)) l HL.out (fun i hi => by
                    have e1 : W1.drew.cell? ⟨b, off + (a + 1) + i, none⟩ = W1.cell? ⟨b, off + (a + 1) + i, none⟩ := rfl
                    rw [e1, BB2.out.cell (p := ⟨b, off + (a + 1) + i, none⟩) hlt]; exact HC.out i hi) 9 Tryd.underlying9
                have r1 : IntKind.i64.wrap ((a : Int) + 1) = (a : Int) + 1 := Go.IntWalk.i64_in _ (by omega)
                have r2 : IntKind.i64.wrap ((a : Int) + 1 + (k : Int)) = (a : Int) + 1 + (k : Int) := Go.IntWalk.i64_in _ (by omega)
                have r3 : 0 ≤ (a : Int) + 1 := by omega
                have r4 : 0 ≤ (a : Int) + 1 + (k : Int) := by omega
                have r5 : (a : Int) + 1 + (k : Int) ≤ (c : Int) := by omega
                have r6 : (a : Int) + 1 ≤ max ((a : Int) + 1 + (k : Int)) 0 := by omega
                have r10 : (a : Int) + 1 ≤ (a : Int) + 1 + (k : Int) := by omega
                have r7 : ((a : Int) + 1).toNat = a + 1 := by omega
                have r8 : ((a : Int) + 1 + (k : Int)).toNat = a + 1 + k := by omega
                have r9 : a + 1 + k - (a + 1) = k := by omega
                have FR2 := hid (show ∀ a, y = some a → w.heap.size < a.block from FR.out)
                have hTs : (strOfNums l).size ≤ 140737488355328 := by rw [strOfNums_size, HL.out]; omega
                obtain ⟨T, hT⟩ : ∃ T, strOfNums l = T := ⟨_, rfl⟩
                rw [hT] at hconv hTs
                have HT := hid hT
                clear hT hW1 b2
                by_cases hLs : Ls = []
                · obtain ⟨rfl, rfl⟩ := HNIL.out hLs
                  subst hLs
                  go_region_law (refine step_append_zero rfl _ _ 60 rfl (.slice (some ⟨W1.heap.size, 0, none⟩) 1 1) (.slice none 0 0) rfl rfl (run_append_none Tryd.underlying60 hi _ _ _ 0 1 1 (Nat.le_refl _)) ?_)
                  all_goals
                    go_wp2_with fail
                    refine bodyPost_ret (v := .agg #[.slice (some ⟨W1.heap.size, 0, none⟩) 1 1, .int .i64 nx, .int .i64 rk]) (by simp [results, Tryd.results52, go_sem, k0, k1, k2, lt0]) rfl ?_
                    rw [R1.out]
                    refine fromPost_label (Ls := []) HRK.out HT.out rfl ?_ hlen HOK.out ?_ (fun a q => by cases q; exact Nat.le_of_lt lt0)
                    · refine Strs.one (by simp) ?_ hTs
                      show World.cell? (World.alloc _ _) _ = _
                      rw [World.cell?_alloc_at _ _ _ _ (by simp)]; rfl
                    · exact (((((BB2.out.setCell (Nat.le_of_lt hw1) _).setCell (Nat.le_refl _) _).setCell (Nat.le_refl _) _).setCell (Nat.le_refl _) _).alloc (by simp; omega) _).drew
                · have hpos : 0 < Ls.length := by
                    rcases Nat.eq_zero_or_pos Ls.length with q | q
                    · exact absurd (List.length_eq_zero_iff.1 q) hLs
                    · exact q
                  have hy : ∃ ad, y = some ad := by
                    rcases HST2.out.2.2.2 with q | ⟨_, _, q, _⟩
                    · exact absurd q hLs
                    · exact ⟨_, q⟩
                  obtain ⟨ad, rfl⟩ := hy
                  have NW : Hid (∀ (o : Obj), ∀ j u, (Ls.map Value.string)[j]? = some u → (W1.alloc o).drew.cell? (ad.add j) = some u) := fun o => strs_newsW (HST2.out.below (((Below.refl _ _).alloc (Nat.le_refl _) o).drew))
                  have hl256 : Ls.length ≤ 256 := by omega
                  go_region_law (refine step_append_lies _ rfl _ _ 60 rfl W1.heap.size 9 i0 (.string ByteArray.empty) 1 16 Tryd.underlying60 hi gz0 gz1 gz2 rfl (by decide) (.slice (some ⟨W1.heap.size, 0, none⟩) 1 1) 1 [.string T] rfl (owns_one W1 (.string T) 9) ad Ls.length qq (Ls.map Value.string) rfl (by simp) (NW.out _) (one_strings Ls) hpos (by unfold maxLen; omega) (by omega) (by simp) _ rfl ?_; intro g cap w2 hown2 hgrow2 hat hlt2; have b3 : Below W1.heap.size W1 w2 := ((((Below.refl _ W1).alloc (Nat.le_refl _) _).drew).grown hgrow2 (by simp) (fun k e => by simp [Value.ownBlock] at e; omega)); have g0 := (b3.cell (p := ⟨w1.heap.size, 0, none⟩) lt1).trans f0; have g1 := (b3.cell (p := ⟨w1.heap.size, 1, none⟩) lt1).trans f1; have g2 := (b3.cell (p := ⟨w1.heap.size, 2, none⟩) lt1).trans f2; have y3 := (b3.frozen (p := ⟨w1.heap.size, 0, none⟩) lt1).trans z3; have j0 := (b3.cell (p := ⟨w.heap.size, 0, none⟩) lt0).trans k0; have j1 := (b3.cell (p := ⟨w.heap.size, 1, none⟩) lt0).trans k1; have j2 := (b3.cell (p := ⟨w.heap.size, 2, none⟩) lt0).trans k2; have y0 := (b3.frozen (p := ⟨w.heap.size, 0, none⟩) lt0).trans z0; have y1 := (b3.frozen (p := ⟨w.heap.size, 1, none⟩) lt0).trans z1; have y2 := (b3.frozen (p := ⟨w.heap.size, 2, none⟩) lt0).trans z2; have B3 := hid (grown_on BB2.out b3); have b3s := b3.size; have O2 := hid hown2; have AT := hid hat; clear hown2 hgrow2 hat b3)
                  all_goals
                    go_wp2_with fail
                    refine bodyPost_ret (v := .agg #[.slice (some ⟨g, 0, none⟩) (1 + Ls.length) cap, .int .i64 nx, .int .i64 rk]) (by simp [results, Tryd.results52, go_sem, j0, j1, j2]) rfl ?_
                    rw [R1.out]
                    have hg : W1.heap.size ≤ g := by
                      rcases AT.out with q | q
                      · simp [Value.ownBlock] at q; omega
                      · rw [q]; simp
                    refine fromPost_label HRK.out HT.out (by simp; omega) ?_ hlen HOK.out ?_ (fun a q => by cases q; simp only; omega)
                    · have S := owns_strs (ss := T :: Ls) O2.out (by simp) (by simp; omega) (by omega) (fun s hs => by
                        rcases List.mem_cons.1 hs with q | q
                        · rw [q]; exact hTs
                        · exact HST2.out.2.2.1 s q)
                      refine Strs.setCell (Strs.setCell (Strs.setCell (Strs.setCell S _ _ ?_) _ _ ?_) _ _ ?_) _ _ ?_ <;> exact fun a q e => by cases q; simp at e; omega
                    · exact (((B3.out.setCell (Nat.le_of_lt hw1) _).setCell (Nat.le_refl _) _).setCell (Nat.le_refl _) _).setCell (Nat.le_refl _) _

end Go.Proofs.YtbbgabdiikdjpaaDoor
