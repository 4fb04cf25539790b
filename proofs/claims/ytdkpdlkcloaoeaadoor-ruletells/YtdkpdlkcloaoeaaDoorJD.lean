/-
  The walk of the document's own answer Held: does a rule hold? Written by genheld.py. The walk of the document's own answer Plained: a rule that is plain. Written by genpled.py. The walk of the law RuleTells. What the tied list of one variable (what the library keeps of the type of errors) gives a walk: that variable's cell; and a start that meets it: the heap that the door's own run leaves. For every row of questions and every query, in whatever memory in which the library variable errors.errorType reads as the program text lays it, the law RuleTells returns true and leaves its arguments as they were. No condition but the row own bounds on sizes.
-/
import Derived.Test.YtdkpdlkcloaoeaaDoorJB
import Derived.Test.YtdkpdlkcloaoeaaDoorRefOrder
import Derived.Test.YtdkpdlkcloaoeaaDoorJC
import Derived.Test.YtdkpdlkcloaoeaaDoorForkT
import Derived.Deep.CutRange
import Derived.Test.YtdkpdlkcloaoeaaDoorRlRow
import Derived.Test.YtdkpdlkcloaoeaaDoorJA
import Derived.Test.YtdkpdlkcloaoeaaDoorRlMat
import Derived.Deep.Cut
import Derived.Test.YtdkpdlkcloaoeaaDoorRefFault
import Derived.Test.YtdkpdlkcloaoeaaDoorRow
import Derived.ChangeSame
import Derived.ChangeVars
import Derived.JoinedOf
import Derived.LaidLaws
import Derived.LaidHandle
import Derived.LaidMore
import Derived.Stop.Joined
import Derived.Test.YtdkpdlkcloaoeaaDoorTie
import Derived.Test.YtdkpdlkcloaoeaaDoorCards
import Derived.SevenTiedAt
namespace Go.Proofs.YtdkpdlkcloaoeaaDoor.Ru
open Go.RowKit Go.Deep

/-- The node at a place of a list. -/
theorem at_last {pre post : List Mt} {f : List Mt} {m : Mt} {k : Nat} (hk : pre.length + (f ++ [m]).length = k + 1) : ∃ h : k < (pre ++ (f ++ [m]) ++ post).length, (pre ++ (f ++ [m]) ++ post)[k] = m := by
  have hl : k = pre.length + f.length := by simp at hk; omega
  refine ⟨by simp; omega, ?_⟩
  have e : (pre ++ (f ++ [m]) ++ post)[k]? = some m := by
    rw [List.append_assoc, List.getElem?_append_right (by omega), List.append_assoc, List.getElem?_append_right (by omega)]
    rw [show k - pre.length - f.length = 0 by omega]
    rfl
  rw [List.getElem?_eq_getElem (by simp; omega)] at e
  exact Option.some.inj e

theorem leaf_ops {m : Mt} (h : matchE m = 0) (k : takes m.op = 0) : m.op = 1 ∨ m.op = 2 ∨ m.op = 3 ∨ m.op = 4 ∨ m.op = 5 ∨ m.op = 6 ∨ m.op = 7 := by
  unfold matchE at h
  split at h
  · cases h
  · unfold takes at k
    split at k
    · cases k
    · split at k
      · cases k
      · omega

theorem from_bounds {m : Mt} (h : matchE m = 0) (k : m.op = 7) : 0 ≤ m.n ∧ m.n ≤ 8 * (m.A.length : Int) ∧ m.A.length ≤ 16 := by
  unfold matchE at h
  split at h
  · cases h
  · split at h
    · cases h
    · split at h
      · omega
      · split at h
        · cases h
        · split at h
          · cases h
          · have e : mostN m.op m.A.length = 8 * (m.A.length : Int) := by unfold mostN; rw [if_pos k]
            generalize mostN m.op m.A.length = mm at *
            omega

set_option maxHeartbeats 4000000 in
set_option maxRecDepth 100000 in
theorem held_leaf {x y z : Option Addr} {c l s t : Nat} (q : Qy) (m : Mt) (k : Nat) (r : List Mt) (w : World) (h : Mats w x c r) (hl : r.length = l) (hq : QyIs w q y s z t) (hm : takes m.op = 0) (hE : matchE m = 0) (hk : k < r.length) (hget : r[k] = m) :
    Calls Tryd.prog 8 #[.slice x l c, .int .i64 (k : Int), .agg #[.slice y q.N.length s, .int .i64 q.ty, .int .i64 q.cl, .int .i64 q.opc, .bool q.rd, .slice z q.F.length t]] w fun e w' => e = .returned (.bool (leafEv q m)) ∧ Below w.heap.size w w' := by
  obtain ⟨b, off, rfl, hb, y1, s1, z1, t1, k0, k1, k2, k3, hS, hB, _⟩ := h.here hk
  rw [hget] at k0 k1 k2 k3 hS hB
  have hlen := h.2.1
  subst hl
  have hkl : (k : Int) < (r.length : Int) := by omega
  obtain ⟨B1, B2, B3⟩ := rlTwo 26 43 w #[.slice y q.N.length s, .int .i64 q.ty, .int .i64 q.cl, .int .i64 q.opc, .bool q.rd, .slice z q.F.length t] #[.int .i64 m.op, .int .i64 m.n, .slice y1 m.N.length s1, .slice z1 m.A.length t1]
  have hb1 := (Below.refl w.heap.size w).alloc (Nat.le_refl _) (.cells #[.slice y q.N.length s, .int .i64 q.ty, .int .i64 q.cl, .int .i64 q.opc, .bool q.rd, .slice z q.F.length t] 26)
  have g0 := (hb1.cell (p := ⟨b, off + k * 4, none⟩) hb).trans k0
  have g1 := (hb1.cell (p := ⟨b, off + k * 4 + 1, none⟩) hb).trans k1
  have g2 := (hb1.cell (p := ⟨b, off + k * 4 + 2, none⟩) hb).trans k2
  have g3 := (hb1.cell (p := ⟨b, off + k * 4 + 3, none⟩) hb).trans k3
  have SS := hid (hS.below B3)
  have DD := hid (hB.below B3)
  have QQ := hid (hq.below B3)
  have F7 := hid (fun e => from_bounds (m := m) hE e)
  have OPS := leaf_ops hE hm
  obtain ⟨W1, hW⟩ : ∃ W1, (w.alloc (.cells #[.slice y q.N.length s, .int .i64 q.ty, .int .i64 q.cl, .int .i64 q.opc, .bool q.rd, .slice z q.F.length t] 26)).alloc (.cells #[.int .i64 m.op, .int .i64 m.n, .slice y1 m.N.length s1, .slice z1 m.A.length t1] 43) = W1 := ⟨_, rfl⟩
  rw [hW] at B1 B2 B3 SS DD QQ
  have HW := hid hW
  have WW := hid B3
  obtain ⟨q0, q1, q2, q3, q4, q5⟩ := bl6 B1
  obtain ⟨m0, m1, m2, m3⟩ := bl4 B2
  clear k0 k1 k2 k3 hS hB h hq hb1 hE hm hget B1 B2 B3 hW
  obtain ⟨op, n, N, A⟩ := m
  simp only at *
  go_enter Tryd.func8, Tryd.ntmps8
  go_upto_region 2 with fail
  rw [HW.out]
  clear g0 g1 g2 g3 HW
  rcases OPS with rfl | rfl | rfl | rfl | rfl | rfl | rfl
  · have E : Hid (leafEv q ⟨1, n, N, A⟩ = true) := hid rfl
    go_wp2_with fail
    go_ret
    exact ⟨by rw [E.out]; rfl, WW.out⟩
  · have E : Hid (leafEv q ⟨2, n, N, A⟩ = Nm.under q.N N) := hid rfl
    go_wp2_with fail
    refine (below_at (Nm.under q.N N) q.N N W1 QQ.out.1 SS.out rfl rfl rfl).mono ?_
    rintro e w2 ⟨rfl, d⟩
    have W2 := hid (WW.out.trans (d.below _))
    clear d
    go_wp2_with fail
    go_ret
    exact ⟨by rw [E.out]; rfl, W2.out⟩
  · have E : Hid (leafEv q ⟨3, n, N, A⟩ = (q.ty == n)) := hid rfl
    go_wp2_with fail
    go_ret
    exact ⟨by rw [E.out]; rfl, WW.out⟩
  · have E : Hid (leafEv q ⟨4, n, N, A⟩ = (q.cl == n)) := hid rfl
    go_wp2_with fail
    go_ret
    exact ⟨by rw [E.out]; rfl, WW.out⟩
  · have E : Hid (leafEv q ⟨5, n, N, A⟩ = (q.opc == n)) := hid rfl
    go_wp2_with fail
    go_ret
    exact ⟨by rw [E.out]; rfl, WW.out⟩
  · have E : Hid (leafEv q ⟨6, n, N, A⟩ = q.rd) := hid rfl
    go_wp2_with fail
    go_ret
    exact ⟨by rw [E.out]; rfl, WW.out⟩
  · obtain ⟨f0, f1, f2⟩ := F7.out rfl
    obtain ⟨v, hv⟩ : ∃ v : Nat, n = (v : Int) := ⟨n.toNat, by omega⟩
    subst hv
    have E : Hid (leafEv q ⟨7, (v : Int), N, A⟩ = (decide ((v : Int) ≤ 8 * (q.F.length : Int)) && decide (Al q.F A v))) := hid rfl
    have hfl := QQ.out.2.1.2.1
    by_cases h8 : (v : Int) ≤ 8 * (q.F.length : Int)
    · have E2 : Hid (leafEv q ⟨7, (v : Int), N, A⟩ = decide (Al q.F A v)) := hid (by rw [E.out, decide_eq_true h8, Bool.true_and])
      have AL := hid (alike_at (decide (Al q.F A v)) q.F A v W1 QQ.out.2.1 DD.out rfl rfl (by omega) (by omega) (by rw [decide_eq_true_iff]; rfl))
      clear E
      generalize decide (Al q.F A v) = av at *
      go_wp2_with fail
      refine AL.out.mono ?_
      rintro e w2 ⟨rfl, rfl⟩
      go_wp2_with fail
      go_ret
      exact ⟨by rw [E2.out]; rfl, WW.out⟩
    · have E2 : Hid (leafEv q ⟨7, (v : Int), N, A⟩ = false) := hid (by rw [E.out, decide_eq_false h8, Bool.false_and])
      clear E
      go_wp2_with fail
      go_ret
      exact ⟨by rw [E2.out]; rfl, WW.out⟩

theorem split_one (pre post : List Mt) (m : Mt) (u : T) : pre ++ flat (.one m u) ++ post = pre ++ flat u ++ (m :: post) := by simp [flat]

theorem split_b (pre post : List Mt) (m : Mt) (a b : T) : pre ++ flat (.two m a b) ++ post = (pre ++ flat a) ++ flat b ++ (m :: post) := by simp [flat]

theorem split_a (pre post : List Mt) (m : Mt) (a b : T) : pre ++ flat (.two m a b) ++ post = pre ++ flat a ++ (flat b ++ m :: post) := by simp [flat]

set_option maxHeartbeats 8000000 in
set_option maxRecDepth 100000 in
theorem held_at (q : Qy) (tr : T) : ∀ {x y z : Option Addr} {c l s t : Nat} (pre post : List Mt) (k : Nat) (v : Bool) (w : World), Mats w x c (pre ++ flat tr ++ post) → (pre ++ flat tr ++ post).length = l → QyIs w q y s z t → wf tr → (∀ m ∈ flat tr, matchE m = 0) → pre.length + (flat tr).length = k + 1 → ev q tr = v →
    Calls Tryd.prog 8 #[.slice x l c, .int .i64 (k : Int), .agg #[.slice y q.N.length s, .int .i64 q.ty, .int .i64 q.cl, .int .i64 q.opc, .bool q.rd, .slice z q.F.length t]] w fun e w' => e = .returned (.bool v) ∧ Below w.heap.size w w' := by
  induction tr with
  | leaf m =>
    intro x y z c l s t pre post k v w h hl hq hw hE hk hv
    subst hv
    obtain ⟨hkr, hget⟩ := at_last (f := []) (post := post) hk
    exact held_leaf q m k (pre ++ flat (.leaf m) ++ post) w h hl hq hw (hE m (by simp [flat])) hkr hget
  | one m u ih =>
    intro x y z c l s t pre post k v w h hl hq hw hE hk hv
    have hlen := h.2.1
    obtain ⟨hkr, hget⟩ := at_last (f := flat u) (post := post) hk
    have hlast : pre ++ (flat u ++ [m]) ++ post = pre ++ flat (.one m u) ++ post := rfl
    simp only [hlast] at hkr hget
    have ho := one_op hw.1
    subst hl
    obtain ⟨b, off, rfl, hb, y1, s1, z1, t1, k0, k1, k2, k3, krest⟩ := h.here hkr
    clear krest
    rw [hget] at k0 k1 k2 k3
    have hkl : (k : Int) < ((pre ++ flat (.one m u) ++ post).length : Int) := by omega
    obtain ⟨B1, B2, B3⟩ := rlTwo 26 43 w #[.slice y q.N.length s, .int .i64 q.ty, .int .i64 q.cl, .int .i64 q.opc, .bool q.rd, .slice z q.F.length t] #[.int .i64 m.op, .int .i64 m.n, .slice y1 m.N.length s1, .slice z1 m.A.length t1]
    have hb1 := (Below.refl w.heap.size w).alloc (Nat.le_refl _) (.cells #[.slice y q.N.length s, .int .i64 q.ty, .int .i64 q.cl, .int .i64 q.opc, .bool q.rd, .slice z q.F.length t] 26)
    have g0 := (hb1.cell (p := ⟨b, off + k * 4, none⟩) hb).trans k0
    have g1 := (hb1.cell (p := ⟨b, off + k * 4 + 1, none⟩) hb).trans k1
    have g2 := (hb1.cell (p := ⟨b, off + k * 4 + 2, none⟩) hb).trans k2
    have g3 := (hb1.cell (p := ⟨b, off + k * 4 + 3, none⟩) hb).trans k3
    obtain ⟨W1, hW⟩ : ∃ W1, (w.alloc (.cells #[.slice y q.N.length s, .int .i64 q.ty, .int .i64 q.cl, .int .i64 q.opc, .bool q.rd, .slice z q.F.length t] 26)).alloc (.cells #[.int .i64 m.op, .int .i64 m.n, .slice y1 m.N.length s1, .slice z1 m.A.length t1] 43) = W1 := ⟨_, rfl⟩
    rw [hW] at B1 B2 B3
    have HW := hid hW
    have WW := hid B3
    have KQ := hid B1
    have KM := hid B2
    have hu := flat_pos u
    have hk2 : pre.length + (flat u).length = (k - 1) + 1 := by simp only [flat, List.length_append, List.length_singleton] at hk; omega
    have hkk : ((k : Int) - 1) = ((k - 1 : Nat) : Int) := by simp only [flat, List.length_append, List.length_singleton] at hk; omega
    have HI := hid (fun p (hp : ev q u = p) => ih (l := (pre ++ flat (.one m u) ++ post).length) pre (m :: post) (k - 1) p W1 (by rw [← split_one]; exact h.below B3) (by rw [← split_one]) (hq.below B3) hw.2 (fun e he => hE e (by simp [flat, he])) hk2 hp)
    obtain ⟨p, hp⟩ : ∃ p, ev q u = p := ⟨_, rfl⟩
    have HI2 := hid (HI.out p hp)
    have HV : Hid (v = !p) := hid (by rw [← hv, ev, hp])
    have HKK := hid hkk
    clear k0 k1 k2 k3 hq hb1 hget hkr B1 B2 B3 hW h hw hE hk hk2 hkk hp HI ih hv hlast
    rw [ho] at g0 HW KM
    generalize (pre ++ flat (.one m u) ++ post).length = l at *
    clear ho
    obtain ⟨op, n, N, A⟩ := m
    simp only at *
    obtain ⟨q0, q1, q2, q3, q4, q5⟩ := bl6 KQ.out
    obtain ⟨m0, m1, m2, m3⟩ := bl4 KM.out
    go_enter Tryd.func8, Tryd.ntmps8
    go_upto_region 2 with fail
    rw [HW.out]
    clear g0 g1 g2 g3 HW
    go_upto_region 16 with fail
    go_wp2_with fail
    rw [HKK.out]
    refine HI2.out.mono ?_
    rintro e w2 ⟨rfl, d⟩
    have M2 := hid (KM.out.below d)
    have W2 := hid (grown_on WW.out d)
    clear d q0 q1 q2 q3 q4 q5 m0 m1 m2 m3
    obtain ⟨m0, m1, m2, m3⟩ := bl4 M2.out
    go_wp2_with fail
    go_ret
    exact ⟨by rw [HV.out]; rfl, W2.out⟩
  | two m a bb iha ihb =>
    intro x y z c l s t pre post k v w h hl hq hw hE hk hv
    have hlen := h.2.1
    obtain ⟨hkr, hget⟩ := at_last (f := flat a ++ flat bb) (post := post) hk
    have hlast : pre ++ (flat a ++ flat bb ++ [m]) ++ post = pre ++ flat (.two m a bb) ++ post := rfl
    simp only [hlast] at hkr hget
    have ho := two_op hw.1
    subst hl
    obtain ⟨b, off, rfl, hb, y1, s1, z1, t1, k0, k1, k2, k3, krest⟩ := h.here hkr
    clear krest
    rw [hget] at k0 k1 k2 k3
    have hkl : (k : Int) < ((pre ++ flat (.two m a bb) ++ post).length : Int) := by omega
    obtain ⟨B1, B2, B3⟩ := rlTwo 26 43 w #[.slice y q.N.length s, .int .i64 q.ty, .int .i64 q.cl, .int .i64 q.opc, .bool q.rd, .slice z q.F.length t] #[.int .i64 m.op, .int .i64 m.n, .slice y1 m.N.length s1, .slice z1 m.A.length t1]
    have hb1 := (Below.refl w.heap.size w).alloc (Nat.le_refl _) (.cells #[.slice y q.N.length s, .int .i64 q.ty, .int .i64 q.cl, .int .i64 q.opc, .bool q.rd, .slice z q.F.length t] 26)
    have g0 := (hb1.cell (p := ⟨b, off + k * 4, none⟩) hb).trans k0
    have g1 := (hb1.cell (p := ⟨b, off + k * 4 + 1, none⟩) hb).trans k1
    have g2 := (hb1.cell (p := ⟨b, off + k * 4 + 2, none⟩) hb).trans k2
    have g3 := (hb1.cell (p := ⟨b, off + k * 4 + 3, none⟩) hb).trans k3
    obtain ⟨W1, hW⟩ : ∃ W1, (w.alloc (.cells #[.slice y q.N.length s, .int .i64 q.ty, .int .i64 q.cl, .int .i64 q.opc, .bool q.rd, .slice z q.F.length t] 26)).alloc (.cells #[.int .i64 m.op, .int .i64 m.n, .slice y1 m.N.length s1, .slice z1 m.A.length t1] 43) = W1 := ⟨_, rfl⟩
    rw [hW] at B1 B2 B3
    have HW := hid hW
    have WW := hid B3
    have KQ := hid B1
    have KM := hid B2
    have ha0 := flat_pos a
    have hb0 := flat_pos bb
    have hkf : pre.length + ((flat a).length + (flat bb).length + 1) = k + 1 := by simp only [flat, List.length_append, List.length_singleton] at hk; omega
    have hkk : ((k : Int) - 1) = ((k - 1 : Nat) : Int) := by omega
    have hka : (((pre ++ flat a).length : Nat) : Int) - 1 = ((pre.length + (flat a).length - 1 : Nat) : Int) := by rw [List.length_append]; omega
    obtain ⟨p, hp⟩ : ∃ p, ev q bb = p := ⟨_, rfl⟩
    obtain ⟨p2, hp2⟩ : ∃ p, ev q a = p := ⟨_, rfl⟩
    have IB := hid (ihb (l := (pre ++ flat (.two m a bb) ++ post).length) (pre ++ flat a) (m :: post) (k - 1) p W1 (by rw [← split_b]; exact h.below B3) (by rw [← split_b]) (hq.below B3) hw.2.2 (fun e he => hE e (by simp [flat, he])) (by rw [List.length_append]; omega) hp)
    have IA := hid (fun u (hu : Below W1.heap.size W1 u) => iha (l := (pre ++ flat (.two m a bb) ++ post).length) pre (flat bb ++ m :: post) (pre.length + (flat a).length - 1) p2 u (by rw [← split_a]; exact (h.below B3).below hu) (by rw [← split_a]) ((hq.below B3).below hu) hw.2.1 (fun e he => hE e (by simp [flat, he])) (by omega) hp2)
    have AH := hid (fun u (hu : Below W1.heap.size W1 u) => ahead_at (l := (pre ++ flat (.two m a bb) ++ post).length) (pre ++ flat a) (m :: post) bb (k - 1) u (by rw [← split_b]; exact (h.below B3).below hu) (by rw [← split_b]) hw.2.2 (by rw [List.length_append]; omega))
    have HV : Hid (v = if m.op = 9 then p2 && p else p2 || p) := hid (by rw [← hv, ev, hp, hp2])
    have HKK := hid hkk
    have HKA := hid hka
    have e1 : (0 : Int) ≤ (((pre ++ flat a).length : Nat) : Int) := by omega
    have e2 : (((pre ++ flat a).length : Nat) : Int) ≤ 4000000000000 := by rw [List.length_append]; have := hkr; omega
    clear k0 k1 k2 k3 hq hb1 hget hkr B1 B2 B3 hW h hw hE hk hkk hka hp hp2 iha ihb hv hlast ha0 hb0 hkf
    generalize (pre ++ flat (.two m a bb) ++ post).length = l at *
    generalize (pre ++ flat a).length = la at *
    generalize pre.length + (flat a).length - 1 = ka at *
    obtain ⟨op, n, N, A⟩ := m
    simp only at *
    have main : ∀ o : Int, op = o → (o = 9 ∨ o = 10) → (o = 9 → v = (p2 && p)) → (o = 10 → v = (p2 || p)) →
        Calls Tryd.prog 8 #[.slice (some ⟨b, off, none⟩) l c, .int .i64 (k : Int), .agg #[.slice y q.N.length s, .int .i64 q.ty, .int .i64 q.cl, .int .i64 q.opc, .bool q.rd, .slice z q.F.length t]] w fun e w' => e = .returned (.bool v) ∧ Below w.heap.size w w' := by
      intro o hoo ho2 hv9 hv10
      subst hoo
      have V9 := hid hv9
      have V10 := hid hv10
      have hk1 : 1 ≤ k := by have := HKK.out; omega
      clear hv9 hv10 HV
      obtain ⟨q0, q1, q2, q3, q4, q5⟩ := bl6 KQ.out
      obtain ⟨m0, m1, m2, m3⟩ := bl4 KM.out
      have d2 : (op == 2) = false := by rcases ho with rfl | rfl <;> rfl
      have d3 : (op == 3) = false := by rcases ho with rfl | rfl <;> rfl
      have d4 : (op == 4) = false := by rcases ho with rfl | rfl <;> rfl
      have d5 : (op == 5) = false := by rcases ho with rfl | rfl <;> rfl
      have d6 : (op == 6) = false := by rcases ho with rfl | rfl <;> rfl
      have d7 : (op == 7) = false := by rcases ho with rfl | rfl <;> rfl
      have d1 : (op == 1) = false := by rcases ho with rfl | rfl <;> rfl
      have d8 : (op == 8) = false := by rcases ho with rfl | rfl <;> rfl
      have HO := hid ho
      clear ho ho2
      go_enter Tryd.func8, Tryd.ntmps8
      go_upto_region 2 with fail
      rw [HW.out]
      clear g0 g1 g2 g3 HW
      go_upto_region 16 with fail
      go_wp2_with fail
      rw [HKK.out]
      refine IB.out.mono ?_
      rintro e w2 ⟨rfl, d⟩
      have HD := hid d
      have M2 := hid (KM.out.below d)
      have Q2 := hid (KQ.out.below d)
      have W2 := hid (grown_on WW.out d)
      clear d q0 q1 q2 q3 q4 q5 m0 m1 m2 m3
      obtain ⟨m0, m1, m2, m3⟩ := bl4 M2.out
      go_upto_region 19 with fail
      clear m0 m1 m2 m3
      obtain ⟨x0, x1, x2, x3, x4, x5⟩ := bl6 Q2.out
      go_cut [9] from 83 to 101 (fun vv wx => vv = .bool p2 ∧ Below w2.heap.size w2 wx)
      case first =>
        have l0 : ∀ s' : Od w2, s'.val.cell? ⟨w.heap.size, 0, none⟩ = some (.slice y q.N.length s) := fun s' => (s'.keeps.cell (p := ⟨w.heap.size, 0, none⟩) Q2.out.lt).trans x0
        have l1 : ∀ s' : Od w2, s'.val.cell? ⟨w.heap.size, 1, none⟩ = some (.int .i64 q.ty) := fun s' => (s'.keeps.cell (p := ⟨w.heap.size, 1, none⟩) Q2.out.lt).trans x1
        have l2 : ∀ s' : Od w2, s'.val.cell? ⟨w.heap.size, 2, none⟩ = some (.int .i64 q.cl) := fun s' => (s'.keeps.cell (p := ⟨w.heap.size, 2, none⟩) Q2.out.lt).trans x2
        have l3 : ∀ s' : Od w2, s'.val.cell? ⟨w.heap.size, 3, none⟩ = some (.int .i64 q.opc) := fun s' => (s'.keeps.cell (p := ⟨w.heap.size, 3, none⟩) Q2.out.lt).trans x3
        have l4 : ∀ s' : Od w2, s'.val.cell? ⟨w.heap.size, 4, none⟩ = some (.bool q.rd) := fun s' => (s'.keeps.cell (p := ⟨w.heap.size, 4, none⟩) Q2.out.lt).trans x4
        have l5 : ∀ s' : Od w2, s'.val.cell? ⟨w.heap.size, 5, none⟩ = some (.slice z q.F.length t) := fun s' => (s'.keeps.cell (p := ⟨w.heap.size, 5, none⟩) Q2.out.lt).trans x5
        have hNe : Nonempty (Od w2) := ⟨⟨w2, Below.refl _ _⟩⟩
        clear x0 x1 x2 x3 x4 x5
        refine wp_region_pt (.qs [0, 1, 2, 3, 6] (.one 4 (.qs [5] (.one 7 (.one 8 .nil))))) (fun u => ∃ s' : Od w2, u = s'.val) (by kernel_rfl) (by kernel_rfl) ?_
        refine ptL_qs ⟨⟨w2.drew, (Below.refl _ _).drew⟩, rfl⟩ ?_
        change wpQuiet _ _ _ _ [_, _, _, _, _] _
        repeat (go_big_quiet_step (fail))
        refine wpQuiet_nil ?_
        have HB := (Below.refl w2.heap.size w2).drew
        refine stepL_at (by rfl) fun K Q' hK => ?_
        go_simp
        rw [HKK.out]
        refine (AH.out _ (HD.out.trans (HB.mono HD.out.size))).mono ?_
        rintro e u1 ⟨rfl, rfl⟩
        refine hK _ _ (fun _ => ⟨⟨_, HB⟩, rfl⟩) ?_
        clear hK
        refine ptL_qs ⟨⟨_, HB⟩, rfl⟩ ?_
        change wpQuiet _ _ _ _ [_] _
        repeat (go_big_quiet_step (fail))
        refine wpQuiet_nil ?_
        refine stepL_at (by rfl) fun K Q' hK => ?_
        go_simp
        rw [HKA.out]
        refine (IA.out _ (HD.out.trans (HB.mono HD.out.size))).mono ?_
        rintro e u2 ⟨rfl, d⟩
        replace HB := HB.trans (d.mono HB.size)
        refine hK _ _ (fun _ => ⟨⟨_, HB⟩, rfl⟩) ?_
        clear hK d
        refine stepL_at (by rfl) fun K Q' hK => ?_
        go_simp
        refine hK _ _ (fun _ => ⟨⟨_, HB⟩, rfl⟩) ?_
        clear hK
        refine ptL_nil ?_
        go_wp2
        go_meet
        exact ⟨rfl, HB⟩
      case rest =>
        obtain ⟨rfl, d⟩ := hcut
        have M3 := hid (M2.out.below d)
        have W3 := hid (grown_on W2.out d)
        clear d x0 x1 x2 x3 x4 x5 IA IB AH HKK HKA KQ KM HD Q2 M2 W2
        obtain ⟨m0, m1, m2, m3⟩ := bl4 M3.out
        by_cases h9 : op = 9
        · have E := hid (V9.out h9)
          have h9' : (op == 9) = true := by simpa using h9
          clear h9
          cases p2 with
          | true =>
            go_wp2_with fail
            go_ret
            exact ⟨by rw [E.out]; rfl, W3.out⟩
          | false =>
            go_wp2_with fail
            go_ret
            exact ⟨by rw [E.out]; rfl, W3.out⟩
        · have E := hid (V10.out (by have := HO.out; omega))
          have h9' : (op == 9) = false := by simpa using h9
          clear h9
          cases p2 with
          | true =>
            go_wp2_with fail
            go_ret
            exact ⟨by rw [E.out]; rfl, W3.out⟩
          | false =>
            go_wp2_with fail
            go_ret
            exact ⟨by rw [E.out]; rfl, W3.out⟩
    refine main op rfl ho (fun e => ?_) (fun e => ?_)
    · rw [HV.out, if_pos e]
    · rw [HV.out, if_neg (by omega)]

end Go.Proofs.YtdkpdlkcloaoeaaDoor.Ru

namespace Go.Proofs.YtdkpdlkcloaoeaaDoor.Ru
open Go.RowKit Go.Deep

/-- A row with the plain rule's nodes. -/
def PlP (wp w : World) (ms : List Mt) (e : Ending) (w' : World) : Prop := ∃ v, e = .returned v ∧ MRow wp w.heap.size w' v ms ∧ Below w.heap.size w w'

/-- What is at hand ahead of the appends. -/
def PlC (wp w : World) (va vb : Value) (fa fb : List Mt) (op nn : Int) (y1 : Option Addr) (ln s1 : Nat) (z1 : Option Addr) (la t1 : Nat) (wx : World) : Prop :=
  Bl 43 wx w.heap.size #[.int .i64 op, .int .i64 nn, .slice y1 ln s1, .slice z1 la t1] ∧ MRow wp (w.heap.size + 1) wx va fa ∧ MRow wp (w.heap.size + 1) wx vb fb ∧ Below w.heap.size w wx

set_option maxHeartbeats 8000000 in
set_option maxRecDepth 100000 in
theorem pled_at (tr : T) : ∀ {x : Option Addr} {c l : Nat} (pre post : List Mt) (k : Nat) (n : Bool) (wp w : World), Mats wp x c (pre ++ flat tr ++ post) → (pre ++ flat tr ++ post).length = l → (pre ++ flat tr ++ post).length ≤ 200 → Below wp.heap.size wp w → wf tr → pre.length + (flat tr).length = k + 1 →
    Calls Tryd.prog 10 #[.slice x l c, .int .i64 (k : Int), .bool n] w (PlP wp w (flat (pl tr n))) := by
  induction tr with
  | leaf m =>
    intro x c l pre post k n wp w h hl h2 hp hw hk
    obtain ⟨hkr, hget⟩ := at_last (f := []) (post := post) hk
    have hlast : pre ++ ([] ++ [m]) ++ post = pre ++ flat (.leaf m) ++ post := rfl
    simp only [hlast] at hkr hget
    subst hl
    obtain ⟨b, off, rfl, hb, y1, s1, z1, t1, k0, k1, k2, k3, hS, hB, hzt⟩ := (h.below hp).here hkr
    have hnum := h.2.2.1 _ (List.getElem_mem hkr)
    rw [hget] at hnum
    rw [hget] at k0 k1 k2 k3 hS hB
    have hkl : (k : Int) < ((pre ++ flat (.leaf m) ++ post).length : Int) := by omega
    obtain ⟨b0, off0, eo, hbp, y0, s0, z0, t0, j0, j1, j2, j3, iS, iB, izt⟩ := h.here hkr
    cases eo
    rw [hget] at j0 j1 j2 j3 iS iB
    obtain ⟨ey, es, ez, et⟩ : y1 = y0 ∧ s1 = s0 ∧ z1 = z0 ∧ t1 = t0 := by
      have a2 := (hp.cell (p := ⟨b, off + k * 4 + 2, none⟩) hbp).trans j2
      have a3 := (hp.cell (p := ⟨b, off + k * 4 + 3, none⟩) hbp).trans j3
      rw [k2] at a2
      rw [k3] at a3
      simp only [Option.some.injEq, Value.slice.injEq] at a2 a3
      exact ⟨a2.1, a2.2.2, a3.1, a3.2.2⟩
    subst ey es ez et
    have ME : Hid (MeIn wp ⟨m, y1, s1, z1, t1⟩) := hid ⟨iS, iB, izt, hnum⟩
    clear j0 j1 j2 j3 iS iB izt hS hB hzt hnum
    have hb1 := (Below.refl w.heap.size w).alloc (Nat.le_refl _) (.cells #[.int .i64 m.op, .int .i64 m.n, .slice y1 m.N.length s1, .slice z1 m.A.length t1] 43)
    have KM := hid (Bl.new 43 w #[.int .i64 m.op, .int .i64 m.n, .slice y1 m.N.length s1, .slice z1 m.A.length t1])
    have WW := hid hb1
    obtain ⟨W1, hW⟩ : ∃ W1, w.alloc (.cells #[.int .i64 m.op, .int .i64 m.n, .slice y1 m.N.length s1, .slice z1 m.A.length t1] 43) = W1 := ⟨_, rfl⟩
    rw [hW] at KM WW hb1
    have HW := hid hW
    have HP := hid hp
    have hm0 : takes m.op = 0 := hw
    have d8 : (m.op == 8) = false := by unfold takes at hm0; split at hm0 <;> simp_all
    have d9 : (m.op == 9) = false := by unfold takes at hm0; split at hm0; (· cases hm0); split at hm0; (· cases hm0); simp; omega
    have d10 : (m.op == 10) = false := by unfold takes at hm0; split at hm0; (· cases hm0); split at hm0; (· cases hm0); simp; omega
    clear hm0 hw h hk hget hW hp hlast
    generalize (pre ++ flat (.leaf m) ++ post).length = l at *
    obtain ⟨op, nn, N, A⟩ := m
    simp only at *
    obtain ⟨m0, m1, m2, m3⟩ := bl4 KM.out
    have hsz : Hid (w.heap.size ≤ W1.heap.size) := hid hb1.size
    have PW : Hid (Below wp.heap.size wp W1) := hid (HP.out.trans (hb1.mono HP.out.size))
    have NM : Hid (MeIn wp ⟨notM, none, 0, none, 0⟩) := hid ⟨⟨Nat.zero_le _, by simp [notM], fun s hs => by simp [notM] at hs, Or.inl rfl⟩, Bys.nil _ _ _, fun _ => rfl, by decide⟩
    clear hb1
    cases n with
    | false =>
      have R1 := hid (mrow_lit (B := w.heap.size) [⟨⟨op, nn, N, A⟩, y1, s1, z1, t1⟩] PW.out hsz.out (fun e he => by rw [List.mem_singleton.1 he]; exact ME.out) (by simp))
      go_enter Tryd.func10, Tryd.ntmps10
      go_upto_region 2 with fail
      rw [HW.out]
      clear k0 k1 k2 k3
      go_wp2_with fail
      go_ret
      exact ⟨_, rfl, R1.out, WW.out.alloc hsz.out _⟩
    | true =>
      have R1 := hid (mrow_lit (B := w.heap.size) [⟨⟨op, nn, N, A⟩, y1, s1, z1, t1⟩, ⟨notM, none, 0, none, 0⟩] PW.out hsz.out (fun e he => by
        rcases List.mem_cons.1 he with rfl | he
        · exact ME.out
        · rw [List.mem_singleton.1 he]; exact NM.out) (by simp))
      go_enter Tryd.func10, Tryd.ntmps10
      go_upto_region 2 with fail
      rw [HW.out]
      clear k0 k1 k2 k3
      go_wp2_with fail
      go_ret
      exact ⟨_, rfl, R1.out, WW.out.alloc hsz.out _⟩
  | one m u ih =>
    intro x c l pre post k n wp w h hl h2 hp hw hk
    obtain ⟨hkr, hget⟩ := at_last (f := flat u) (post := post) hk
    have hlast : pre ++ (flat u ++ [m]) ++ post = pre ++ flat (.one m u) ++ post := rfl
    simp only [hlast] at hkr hget
    have ho := one_op hw.1
    subst hl
    obtain ⟨b, off, rfl, hb, y1, s1, z1, t1, k0, k1, k2, k3, hS, hB, hzt⟩ := (h.below hp).here hkr
    have hnum := h.2.2.1 _ (List.getElem_mem hkr)
    rw [hget] at hnum
    rw [hget] at k0 k1 k2 k3 hS hB
    have hkl : (k : Int) < ((pre ++ flat (.one m u) ++ post).length : Int) := by omega
    obtain ⟨b0, off0, eo, hbp, y0, s0, z0, t0, j0, j1, j2, j3, iS, iB, izt⟩ := h.here hkr
    cases eo
    rw [hget] at j0 j1 j2 j3 iS iB
    obtain ⟨ey, es, ez, et⟩ : y1 = y0 ∧ s1 = s0 ∧ z1 = z0 ∧ t1 = t0 := by
      have a2 := (hp.cell (p := ⟨b, off + k * 4 + 2, none⟩) hbp).trans j2
      have a3 := (hp.cell (p := ⟨b, off + k * 4 + 3, none⟩) hbp).trans j3
      rw [k2] at a2
      rw [k3] at a3
      simp only [Option.some.injEq, Value.slice.injEq] at a2 a3
      exact ⟨a2.1, a2.2.2, a3.1, a3.2.2⟩
    subst ey es ez et
    have ME : Hid (MeIn wp ⟨m, y1, s1, z1, t1⟩) := hid ⟨iS, iB, izt, hnum⟩
    clear j0 j1 j2 j3 iS iB izt hS hB hzt hnum
    have hb1 := (Below.refl w.heap.size w).alloc (Nat.le_refl _) (.cells #[.int .i64 m.op, .int .i64 m.n, .slice y1 m.N.length s1, .slice z1 m.A.length t1] 43)
    have KM := hid (Bl.new 43 w #[.int .i64 m.op, .int .i64 m.n, .slice y1 m.N.length s1, .slice z1 m.A.length t1])
    have WW := hid hb1
    obtain ⟨W1, hW⟩ : ∃ W1, w.alloc (.cells #[.int .i64 m.op, .int .i64 m.n, .slice y1 m.N.length s1, .slice z1 m.A.length t1] 43) = W1 := ⟨_, rfl⟩
    rw [hW] at KM WW hb1
    have HW := hid hW
    have HP := hid hp
    have hu := flat_pos u
    have hk2 : pre.length + (flat u).length = (k - 1) + 1 := by simp only [flat, List.length_append, List.length_singleton] at hk; omega
    have hkk : ((k : Int) - 1) = ((k - 1 : Nat) : Int) := by simp only [flat, List.length_append, List.length_singleton] at hk; omega
    have HI := hid (ih (l := (pre ++ flat (.one m u) ++ post).length) pre (m :: post) (k - 1) (!n) wp W1 (by rw [← split_one]; exact h) (by rw [← split_one]) (by rw [← split_one]; exact h2) (HP.out.trans (hb1.mono HP.out.size)) hw.2 hk2)
    have HKK := hid hkk
    have hsz := hb1.size
    clear h hk hget hkr hW hp hlast ih hw hk2 hkk hb1
    rw [ho] at k0 HW KM
    generalize (pre ++ flat (.one m u) ++ post).length = l at *
    clear ho ME
    obtain ⟨op, nn, N, A⟩ := m
    simp only at *
    obtain ⟨m0, m1, m2, m3⟩ := bl4 KM.out
    go_enter Tryd.func10, Tryd.ntmps10
    go_upto_region 2 with fail
    rw [HW.out]
    clear k0 k1 k2 k3
    go_wp2_with fail
    rw [HKK.out]
    refine HI.out.mono ?_
    rintro e w2 ⟨v, rfl, hrow, d⟩
    have R2 := hid (hrow.base hsz)
    have W2 := hid (grown_on WW.out d)
    clear hrow d
    go_wp2_with fail
    go_ret
    exact ⟨_, rfl, R2.out, W2.out⟩
  | two m a bb iha ihb =>
    intro x c l pre post k n wp w h hl h2 hp hw hk
    obtain ⟨hkr, hget⟩ := at_last (f := flat a ++ flat bb) (post := post) hk
    have hlast : pre ++ (flat a ++ flat bb ++ [m]) ++ post = pre ++ flat (.two m a bb) ++ post := rfl
    simp only [hlast] at hkr hget
    have ho := two_op hw.1
    have hfo := flip_op hw.1
    have hfl : (flip m).n = m.n ∧ (flip m).N = m.N ∧ (flip m).A = m.A := by unfold flip; split <;> exact ⟨rfl, rfl, rfl⟩
    subst hl
    obtain ⟨b, off, rfl, hb, y1, s1, z1, t1, k0, k1, k2, k3, hS, hB, hzt⟩ := (h.below hp).here hkr
    have hnum := h.2.2.1 _ (List.getElem_mem hkr)
    rw [hget] at hnum
    rw [hget] at k0 k1 k2 k3 hS hB
    have hkl : (k : Int) < ((pre ++ flat (.two m a bb) ++ post).length : Int) := by omega
    obtain ⟨b0, off0, eo, hbp, y0, s0, z0, t0, j0, j1, j2, j3, iS, iB, izt⟩ := h.here hkr
    cases eo
    rw [hget] at j0 j1 j2 j3 iS iB
    obtain ⟨ey, es, ez, et⟩ : y1 = y0 ∧ s1 = s0 ∧ z1 = z0 ∧ t1 = t0 := by
      have a2 := (hp.cell (p := ⟨b, off + k * 4 + 2, none⟩) hbp).trans j2
      have a3 := (hp.cell (p := ⟨b, off + k * 4 + 3, none⟩) hbp).trans j3
      rw [k2] at a2
      rw [k3] at a3
      simp only [Option.some.injEq, Value.slice.injEq] at a2 a3
      exact ⟨a2.1, a2.2.2, a3.1, a3.2.2⟩
    subst ey es ez et
    have ME : Hid (MeIn wp ⟨m, y1, s1, z1, t1⟩) := hid ⟨iS, iB, izt, hnum⟩
    clear j0 j1 j2 j3 iS iB izt hS hB hzt hnum
    have hb1 := (Below.refl w.heap.size w).alloc (Nat.le_refl _) (.cells #[.int .i64 m.op, .int .i64 m.n, .slice y1 m.N.length s1, .slice z1 m.A.length t1] 43)
    have KM := hid (Bl.new 43 w #[.int .i64 m.op, .int .i64 m.n, .slice y1 m.N.length s1, .slice z1 m.A.length t1])
    have WW := hid hb1
    obtain ⟨W1, hW⟩ : ∃ W1, w.alloc (.cells #[.int .i64 m.op, .int .i64 m.n, .slice y1 m.N.length s1, .slice z1 m.A.length t1] 43) = W1 := ⟨_, rfl⟩
    rw [hW] at KM WW hb1
    have HW := hid hW
    have HP := hid hp
    have ha0 := flat_pos a
    have hb0 := flat_pos bb
    have hkf : pre.length + ((flat a).length + (flat bb).length + 1) = k + 1 := by simp only [flat, List.length_append, List.length_singleton] at hk; omega
    have hkk : ((k : Int) - 1) = ((k - 1 : Nat) : Int) := by omega
    have hka : (((pre ++ flat a).length : Nat) : Int) - 1 = ((pre.length + (flat a).length - 1 : Nat) : Int) := by rw [List.length_append]; omega
    have hal : (flat (pl a n)).length ≤ 400 := by have := pl_len a n; simp only [flat, List.length_append, List.length_singleton] at h2; omega
    have hbl : (flat (pl bb n)).length ≤ 400 := by have := pl_len bb n; simp only [flat, List.length_append, List.length_singleton] at h2; omega
    have hap := flat_pos (pl a n)
    have hbp2 := flat_pos (pl bb n)
    have IA := hid (fun u (hu : Below W1.heap.size W1 u) => iha (l := (pre ++ flat (.two m a bb) ++ post).length) pre (flat bb ++ m :: post) (pre.length + (flat a).length - 1) n wp u (by rw [← split_a]; exact h) (by rw [← split_a]) (by rw [← split_a]; exact h2) ((HP.out.trans (hb1.mono HP.out.size)).trans (hu.mono (Nat.le_trans HP.out.size hb1.size))) hw.2.1 (by omega))
    have IB := hid (fun u (hu : Below W1.heap.size W1 u) => ihb (l := (pre ++ flat (.two m a bb) ++ post).length) (pre ++ flat a) (m :: post) (k - 1) n wp u (by rw [← split_b]; exact h) (by rw [← split_b]) (by rw [← split_b]; exact h2) ((HP.out.trans (hb1.mono HP.out.size)).trans (hu.mono (Nat.le_trans HP.out.size hb1.size))) hw.2.2 (by rw [List.length_append]; omega))
    have AH := hid (ahead_at (l := (pre ++ flat (.two m a bb) ++ post).length) (pre ++ flat a) (m :: post) bb (k - 1) W1 (by rw [← split_b]; exact (h.below hp).below hb1) (by rw [← split_b]) hw.2.2 (by rw [List.length_append]; omega))
    have HKK := hid hkk
    have HKA := hid hka
    have e1 : (0 : Int) ≤ (((pre ++ flat a).length : Nat) : Int) := by omega
    have e2 : (((pre ++ flat a).length : Nat) : Int) ≤ 200 := by simp only [flat, List.length_append, List.length_singleton] at h2 ⊢; omega
    have hsz := hb1.size
    have hsz1 : W1.heap.size = w.heap.size + 1 := by rw [← hW]; simp
    have PS := hid (hp.size)
    have hh1 : (pre ++ flat (.two m a bb) ++ post).length ≤ 200 := h2
    have FM : Hid (MeIn wp ⟨flip m, y1, s1, z1, t1⟩) := hid (by
      obtain ⟨f1, f2, f3, f4, f5, f6, f7⟩ := ME.out
      obtain ⟨g1, g2, g3⟩ := hfl
      refine ⟨by rw [g2]; exact f1, by rw [g3]; exact f2, f3, ?_⟩
      have f6' : -9223372036854775808 ≤ m.n := f6
      have f7' : m.n ≤ 9223372036854775807 := f7
      have := two_op hfo
      simp only [g1]
      omega)
    have EF : Hid (flat (pl (.two m a bb) n) = flat (pl a n) ++ flat (pl bb n) ++ [if n then flip m else m]) := hid rfl
    clear h hk hget hkr hW hp hlast iha ihb hw hkk hka hb1 ha0 hb0 hkf h2 hfo
    generalize (pre ++ flat (.two m a bb) ++ post).length = l at *
    generalize (pre ++ flat a).length = la at *
    generalize pre.length + (flat a).length - 1 = ka at *
    generalize flat (pl a n) = fa at *
    generalize flat (pl bb n) = fb at *
    generalize flat (pl (.two m a bb) n) = fall at *
    have GO : ∀ o : Int, m.op = o → (o = 9 ∨ o = 10) → Calls Tryd.prog 10 #[.slice (some ⟨b, off, none⟩) l c, .int .i64 (k : Int), .bool n] w (PlP wp w fall) := by
      intro o hmo ho2
      have d8 : (o == 8) = false := by rcases ho2 with rfl | rfl <;> rfl
      have d910 : (o == 9 || o == 10) = true := by rcases ho2 with rfl | rfl <;> rfl
      have FO : Hid (o = 9 → (flip m).op = 10) := hid (fun q => by unfold flip; rw [if_pos (by rw [hmo]; exact q)])
      have FO2 : Hid (¬ o = 9 → (flip m).op = 9) := hid (fun q => by unfold flip; rw [if_neg (by rw [hmo]; exact q)])
      rw [hmo] at k0 HW KM
      have HMO := hid hmo
      have HO := hid ho2
      have HFL := hid hfl
      clear hmo ho2 hfl ho
      generalize hNN : m.n = nn at *
      have NNE := hid hNN
      clear hNN
      generalize hN : m.N.length = lN at *
      generalize hA : m.A.length = lA at *
      have hN' := hid hN
      have hA' := hid hA
      clear hN hA
      cases n with
      | false =>
        by_cases h9 : o = 9
        · have h9' : (o == 9) = true := by simpa using h9
          clear h9 d910
          obtain ⟨m0, m1, m2, m3⟩ := bl4 KM.out
          go_enter Tryd.func10, Tryd.ntmps10
          go_upto_region 2 with fail
          rw [HW.out]
          clear k0 k1 k2 k3
          go_upto_region 5 with fail
          go_wp2_with fail
          rw [HKK.out]
          refine AH.out.mono ?_
          rintro e w1 ⟨rfl, rfl⟩
          go_wp2_with fail
          rw [HKA.out]
          refine (IA.out _ (Below.refl _ _)).mono ?_
          rintro e w2 ⟨va, rfl, ra, d⟩
          have RA := hid (ra.base (B' := w.heap.size + 1) (by omega))
          have M2 := hid (KM.out.below d)
          have W2 := hid (grown_on WW.out d)
          have D2 := hid d
          clear ra d m0 m1 m2 m3 KM WW AH IA HKA
          go_wp2_with fail
          rw [HKK.out]
          refine (IB.out _ D2.out).mono ?_
          rintro e w3 ⟨vb, rfl, rb, d⟩
          have RB := hid (rb.base (B' := w.heap.size + 1) (by have := D2.out.size; omega))
          replace RA := hid (RA.out.stay d)
          have M3 := hid (M2.out.below d)
          have W3 := hid (grown_on W2.out d)
          clear rb d D2 M2 W2 IB HKK
          obtain ⟨m0, m1, m2, m3⟩ := bl4 M3.out
          have z0 := M3.out.frozen 0
          have hps := PS.out
          have M4 := M3
          have R4a := RA
          have R4b := RB
          have W4 := W3
          go_upto_region 12 with fail
          clear m0 m1 m2 m3 z0
          generalize w3 = wc at *
          have M4lt := hid M4.out.lt
          have SW := hid W4.out.size
          have PP : Hid (Below wp.heap.size wp wc) := hid (HP.out.trans (W4.out.mono PS.out))
          obtain ⟨ga, ca, La, rfl, ela, pa, hga, hga2, qa⟩ := R4a.out.own hap
          obtain ⟨gb, cb, Lb, rfl, elb, pb, hgb, hgb2, qb⟩ := R4b.out.own hbp2
          have QA := hid qa
          have HLa := hid ela
          have PA := hid pa
          have hlA : Hid (La.length = fa.length) := hid (by rw [← ela, List.length_map])
          clear qa ela pa R4a qb elb pb RA RB M3 W3 hgb hgb2 hga hga2 Lb
          have hfa : fa.length ≤ 400 := hal
          have N0 := hid (MRow.nil wc.heap.size PP.out)
          have PSz := hid PP.out.size
          go_upto_region 13 with (at_builtin; refine wpList_append_mats La rfl _ _ rfl rfl rfl N0.out hlA.out QA.out PA.out (by simp; omega) PSz.out (Nat.le_refl _) ?_; intro v5 w5 r5 g5 b5 l5)
          rw [HLa.out, List.nil_append] at r5
          have R5 := hid r5
          have R5b := hid (R4b.out.stay b5)
          have M5 := hid (M4.out.below b5)
          have W5 := hid (grown_on W4.out b5)
          have S5 := hid b5.size
          clear r5 g5 b5 l5 N0 QA PA HLa hlA R4b M4 W4
          obtain ⟨gb2, cb2, Lb, eb2, elb, pb, hgb, hgb2, qb⟩ := R5b.out.own hbp2
          obtain ⟨rfl, rfl⟩ : gb = gb2 ∧ cb = cb2 := by
            simp only [Value.slice.injEq, Option.some.injEq, Addr.mk.injEq] at eb2
            exact ⟨eb2.1.1, eb2.2.2⟩
          have QB := hid qb
          have HLb := hid elb
          have PB := hid pb
          have hlB : Hid (Lb.length = fb.length) := hid (by rw [← elb, List.length_map])
          clear qb elb pb eb2 hgb hgb2 R5b
          go_upto_region 14 with (at_builtin; refine wpList_append_mats Lb rfl _ _ rfl rfl rfl R5.out hlB.out QB.out PB.out (by omega) PSz.out S5.out ?_; intro v6 w6 r6 g6 b6 l6)
          rw [HLb.out] at r6
          have R6 := hid r6
          have M6 := hid (M5.out.under M4lt.out b6)
          have W6 := hid (W5.out.trans (b6.mono (Nat.le_of_lt M4lt.out)))
          have S6 := hid (Nat.le_trans S5.out b6.size)
          clear r6 g6 b6 l6 R5 QB PB HLb hlB M5 W5
          obtain ⟨m0, m1, m2, m3⟩ := bl4 M6.out
          have R7 := hid (R6.out.stay ((Below.refl w6.heap.size w6).alloc (Nat.le_refl _) (.cells #[.int .i64 o, .int .i64 nn, .slice y1 lN s1, .slice z1 lA t1] 43)))
          have W7 := hid (W6.out.alloc W6.out.size (.cells #[.int .i64 o, .int .i64 nn, .slice y1 lN s1, .slice z1 lA t1] 43))
          have S7 := hid (Nat.le_trans S6.out ((Below.refl w6.heap.size w6).alloc (Nat.le_refl _) (.cells #[.int .i64 o, .int .i64 nn, .slice y1 lN s1, .slice z1 lA t1] 43)).size)
          have EM : Hid ([(⟨m, y1, s1, z1, t1⟩ : Me)].flatMap mcells = [.int .i64 o, .int .i64 nn, .slice y1 lN s1, .slice z1 lA t1]) := hid (by
            simp only [List.flatMap_cons, List.flatMap_nil, List.append_nil, mcells]
            rw [HMO.out, NNE.out, hN'.out, hA'.out])
          have Q7 : Hid (∀ j u, ([(⟨m, y1, s1, z1, t1⟩ : Me)].flatMap mcells)[j]? = some u → (w6.alloc (.cells #[.int .i64 o, .int .i64 nn, .slice y1 lN s1, .slice z1 lA t1] 43)).cell? ((⟨w6.heap.size, 0, none⟩ : Addr).add j) = some u) := hid (fun j u h => cells_new w6 [.int .i64 o, .int .i64 nn, .slice y1 lN s1, .slice z1 lA t1] 43 j u (by rw [EM.out] at h; exact h))
          have P7 : Hid (∀ e ∈ [(⟨m, y1, s1, z1, t1⟩ : Me)], MeIn wp e) := hid (fun e he => by rw [List.mem_singleton.1 he]; exact ME.out)
          clear R6 W6
          have hlen : (fa ++ fb).length ≤ 800 := by rw [List.length_append]; omega
          generalize fa ++ fb = fab at *
          go_wp2_with (at_builtin; refine wpList_append_mats [(⟨m, y1, s1, z1, t1⟩ : Me)] rfl _ _ rfl rfl rfl R7.out rfl Q7.out P7.out (by omega) PSz.out S7.out ?_; intro v8 w8 r8 g8 b8 l8)
          have R8 := hid (r8.base (B' := w.heap.size) SW.out)
          have W8 := hid (W7.out.trans (b8.mono SW.out))
          clear r8 g8 b8 l8
          go_ret
          refine ⟨_, rfl, ?_, W8.out⟩
          rw [EF.out]
          exact R8.out
        · have h9' : (o == 9) = false := by simpa using h9
          have h10 : (o == 10) = true := by have := HO.out; simp; omega
          clear h9 d910
          obtain ⟨m0, m1, m2, m3⟩ := bl4 KM.out
          go_enter Tryd.func10, Tryd.ntmps10
          go_upto_region 2 with fail
          rw [HW.out]
          clear k0 k1 k2 k3
          go_upto_region 5 with fail
          go_wp2_with fail
          rw [HKK.out]
          refine AH.out.mono ?_
          rintro e w1 ⟨rfl, rfl⟩
          go_wp2_with fail
          rw [HKA.out]
          refine (IA.out _ (Below.refl _ _)).mono ?_
          rintro e w2 ⟨va, rfl, ra, d⟩
          have RA := hid (ra.base (B' := w.heap.size + 1) (by omega))
          have M2 := hid (KM.out.below d)
          have W2 := hid (grown_on WW.out d)
          have D2 := hid d
          clear ra d m0 m1 m2 m3 KM WW AH IA HKA
          go_wp2_with fail
          rw [HKK.out]
          refine (IB.out _ D2.out).mono ?_
          rintro e w3 ⟨vb, rfl, rb, d⟩
          have RB := hid (rb.base (B' := w.heap.size + 1) (by have := D2.out.size; omega))
          replace RA := hid (RA.out.stay d)
          have M3 := hid (M2.out.below d)
          have W3 := hid (grown_on W2.out d)
          clear rb d D2 M2 W2 IB HKK
          obtain ⟨m0, m1, m2, m3⟩ := bl4 M3.out
          have z0 := M3.out.frozen 0
          have hps := PS.out
          have M4 := M3
          have R4a := RA
          have R4b := RB
          have W4 := W3
          go_upto_region 12 with fail
          clear m0 m1 m2 m3 z0
          generalize w3 = wc at *
          have M4lt := hid M4.out.lt
          have SW := hid W4.out.size
          have PP : Hid (Below wp.heap.size wp wc) := hid (HP.out.trans (W4.out.mono PS.out))
          obtain ⟨ga, ca, La, rfl, ela, pa, hga, hga2, qa⟩ := R4a.out.own hap
          obtain ⟨gb, cb, Lb, rfl, elb, pb, hgb, hgb2, qb⟩ := R4b.out.own hbp2
          have QA := hid qa
          have HLa := hid ela
          have PA := hid pa
          have hlA : Hid (La.length = fa.length) := hid (by rw [← ela, List.length_map])
          clear qa ela pa R4a qb elb pb RA RB M3 W3 hgb hgb2 hga hga2 Lb
          have hfa : fa.length ≤ 400 := hal
          have N0 := hid (MRow.nil wc.heap.size PP.out)
          have PSz := hid PP.out.size
          go_upto_region 13 with (at_builtin; refine wpList_append_mats La rfl _ _ rfl rfl rfl N0.out hlA.out QA.out PA.out (by simp; omega) PSz.out (Nat.le_refl _) ?_; intro v5 w5 r5 g5 b5 l5)
          rw [HLa.out, List.nil_append] at r5
          have R5 := hid r5
          have R5b := hid (R4b.out.stay b5)
          have M5 := hid (M4.out.below b5)
          have W5 := hid (grown_on W4.out b5)
          have S5 := hid b5.size
          clear r5 g5 b5 l5 N0 QA PA HLa hlA R4b M4 W4
          obtain ⟨gb2, cb2, Lb, eb2, elb, pb, hgb, hgb2, qb⟩ := R5b.out.own hbp2
          obtain ⟨rfl, rfl⟩ : gb = gb2 ∧ cb = cb2 := by
            simp only [Value.slice.injEq, Option.some.injEq, Addr.mk.injEq] at eb2
            exact ⟨eb2.1.1, eb2.2.2⟩
          have QB := hid qb
          have HLb := hid elb
          have PB := hid pb
          have hlB : Hid (Lb.length = fb.length) := hid (by rw [← elb, List.length_map])
          clear qb elb pb eb2 hgb hgb2 R5b
          go_upto_region 14 with (at_builtin; refine wpList_append_mats Lb rfl _ _ rfl rfl rfl R5.out hlB.out QB.out PB.out (by omega) PSz.out S5.out ?_; intro v6 w6 r6 g6 b6 l6)
          rw [HLb.out] at r6
          have R6 := hid r6
          have M6 := hid (M5.out.under M4lt.out b6)
          have W6 := hid (W5.out.trans (b6.mono (Nat.le_of_lt M4lt.out)))
          have S6 := hid (Nat.le_trans S5.out b6.size)
          clear r6 g6 b6 l6 R5 QB PB HLb hlB M5 W5
          obtain ⟨m0, m1, m2, m3⟩ := bl4 M6.out
          have R7 := hid (R6.out.stay ((Below.refl w6.heap.size w6).alloc (Nat.le_refl _) (.cells #[.int .i64 o, .int .i64 nn, .slice y1 lN s1, .slice z1 lA t1] 43)))
          have W7 := hid (W6.out.alloc W6.out.size (.cells #[.int .i64 o, .int .i64 nn, .slice y1 lN s1, .slice z1 lA t1] 43))
          have S7 := hid (Nat.le_trans S6.out ((Below.refl w6.heap.size w6).alloc (Nat.le_refl _) (.cells #[.int .i64 o, .int .i64 nn, .slice y1 lN s1, .slice z1 lA t1] 43)).size)
          have EM : Hid ([(⟨m, y1, s1, z1, t1⟩ : Me)].flatMap mcells = [.int .i64 o, .int .i64 nn, .slice y1 lN s1, .slice z1 lA t1]) := hid (by
            simp only [List.flatMap_cons, List.flatMap_nil, List.append_nil, mcells]
            rw [HMO.out, NNE.out, hN'.out, hA'.out])
          have Q7 : Hid (∀ j u, ([(⟨m, y1, s1, z1, t1⟩ : Me)].flatMap mcells)[j]? = some u → (w6.alloc (.cells #[.int .i64 o, .int .i64 nn, .slice y1 lN s1, .slice z1 lA t1] 43)).cell? ((⟨w6.heap.size, 0, none⟩ : Addr).add j) = some u) := hid (fun j u h => cells_new w6 [.int .i64 o, .int .i64 nn, .slice y1 lN s1, .slice z1 lA t1] 43 j u (by rw [EM.out] at h; exact h))
          have P7 : Hid (∀ e ∈ [(⟨m, y1, s1, z1, t1⟩ : Me)], MeIn wp e) := hid (fun e he => by rw [List.mem_singleton.1 he]; exact ME.out)
          clear R6 W6
          have hlen : (fa ++ fb).length ≤ 800 := by rw [List.length_append]; omega
          generalize fa ++ fb = fab at *
          go_wp2_with (at_builtin; refine wpList_append_mats [(⟨m, y1, s1, z1, t1⟩ : Me)] rfl _ _ rfl rfl rfl R7.out rfl Q7.out P7.out (by omega) PSz.out S7.out ?_; intro v8 w8 r8 g8 b8 l8)
          have R8 := hid (r8.base (B' := w.heap.size) SW.out)
          have W8 := hid (W7.out.trans (b8.mono SW.out))
          clear r8 g8 b8 l8
          go_ret
          refine ⟨_, rfl, ?_, W8.out⟩
          rw [EF.out]
          exact R8.out
      | true =>
        by_cases h9 : o = 9
        · have E := hid (FO.out h9)
          have h9' : (o == 9) = true := by simpa using h9
          clear h9 d910
          obtain ⟨m0, m1, m2, m3⟩ := bl4 KM.out
          go_enter Tryd.func10, Tryd.ntmps10
          go_upto_region 2 with fail
          rw [HW.out]
          clear k0 k1 k2 k3
          go_upto_region 5 with fail
          go_wp2_with fail
          rw [HKK.out]
          refine AH.out.mono ?_
          rintro e w1 ⟨rfl, rfl⟩
          go_wp2_with fail
          rw [HKA.out]
          refine (IA.out _ (Below.refl _ _)).mono ?_
          rintro e w2 ⟨va, rfl, ra, d⟩
          have RA := hid (ra.base (B' := w.heap.size + 1) (by omega))
          have M2 := hid (KM.out.below d)
          have W2 := hid (grown_on WW.out d)
          have D2 := hid d
          clear ra d m0 m1 m2 m3 KM WW AH IA HKA
          go_wp2_with fail
          rw [HKK.out]
          refine (IB.out _ D2.out).mono ?_
          rintro e w3 ⟨vb, rfl, rb, d⟩
          have RB := hid (rb.base (B' := w.heap.size + 1) (by have := D2.out.size; omega))
          replace RA := hid (RA.out.stay d)
          have M3 := hid (M2.out.below d)
          have W3 := hid (grown_on W2.out d)
          clear rb d D2 M2 W2 IB HKK
          obtain ⟨m0, m1, m2, m3⟩ := bl4 M3.out
          have z0 := M3.out.frozen 0
          have hps := PS.out
          have M4 : Hid (Bl 43 (w3.setCell ⟨w.heap.size, 0, none⟩ (.int .i64 10)) w.heap.size #[.int .i64 10, .int .i64 nn, .slice y1 lN s1, .slice z1 lA t1]) := hid (M3.out.set 0 (.int .i64 10))
          have R4a := hid (RA.out.far (p := ⟨w.heap.size, 0, none⟩) hps (Nat.lt_succ_self _) (.int .i64 10))
          have R4b := hid (RB.out.far (p := ⟨w.heap.size, 0, none⟩) hps (Nat.lt_succ_self _) (.int .i64 10))
          have W4 := hid (W3.out.setCell (p := ⟨w.heap.size, 0, none⟩) (Nat.le_refl _) (.int .i64 10))
          go_upto_region 12 with fail
          clear m0 m1 m2 m3 z0
          generalize w3.setCell ⟨w.heap.size, 0, none⟩ (.int .i64 10) = wc at *
          have M4lt := hid M4.out.lt
          have SW := hid W4.out.size
          have PP : Hid (Below wp.heap.size wp wc) := hid (HP.out.trans (W4.out.mono PS.out))
          obtain ⟨ga, ca, La, rfl, ela, pa, hga, hga2, qa⟩ := R4a.out.own hap
          obtain ⟨gb, cb, Lb, rfl, elb, pb, hgb, hgb2, qb⟩ := R4b.out.own hbp2
          have QA := hid qa
          have HLa := hid ela
          have PA := hid pa
          have hlA : Hid (La.length = fa.length) := hid (by rw [← ela, List.length_map])
          clear qa ela pa R4a qb elb pb RA RB M3 W3 hgb hgb2 hga hga2 Lb
          have hfa : fa.length ≤ 400 := hal
          have N0 := hid (MRow.nil wc.heap.size PP.out)
          have PSz := hid PP.out.size
          go_upto_region 13 with (at_builtin; refine wpList_append_mats La rfl _ _ rfl rfl rfl N0.out hlA.out QA.out PA.out (by simp; omega) PSz.out (Nat.le_refl _) ?_; intro v5 w5 r5 g5 b5 l5)
          rw [HLa.out, List.nil_append] at r5
          have R5 := hid r5
          have R5b := hid (R4b.out.stay b5)
          have M5 := hid (M4.out.below b5)
          have W5 := hid (grown_on W4.out b5)
          have S5 := hid b5.size
          clear r5 g5 b5 l5 N0 QA PA HLa hlA R4b M4 W4
          obtain ⟨gb2, cb2, Lb, eb2, elb, pb, hgb, hgb2, qb⟩ := R5b.out.own hbp2
          obtain ⟨rfl, rfl⟩ : gb = gb2 ∧ cb = cb2 := by
            simp only [Value.slice.injEq, Option.some.injEq, Addr.mk.injEq] at eb2
            exact ⟨eb2.1.1, eb2.2.2⟩
          have QB := hid qb
          have HLb := hid elb
          have PB := hid pb
          have hlB : Hid (Lb.length = fb.length) := hid (by rw [← elb, List.length_map])
          clear qb elb pb eb2 hgb hgb2 R5b
          go_upto_region 14 with (at_builtin; refine wpList_append_mats Lb rfl _ _ rfl rfl rfl R5.out hlB.out QB.out PB.out (by omega) PSz.out S5.out ?_; intro v6 w6 r6 g6 b6 l6)
          rw [HLb.out] at r6
          have R6 := hid r6
          have M6 := hid (M5.out.under M4lt.out b6)
          have W6 := hid (W5.out.trans (b6.mono (Nat.le_of_lt M4lt.out)))
          have S6 := hid (Nat.le_trans S5.out b6.size)
          clear r6 g6 b6 l6 R5 QB PB HLb hlB M5 W5
          obtain ⟨m0, m1, m2, m3⟩ := bl4 M6.out
          have R7 := hid (R6.out.stay ((Below.refl w6.heap.size w6).alloc (Nat.le_refl _) (.cells #[.int .i64 10, .int .i64 nn, .slice y1 lN s1, .slice z1 lA t1] 43)))
          have W7 := hid (W6.out.alloc W6.out.size (.cells #[.int .i64 10, .int .i64 nn, .slice y1 lN s1, .slice z1 lA t1] 43))
          have S7 := hid (Nat.le_trans S6.out ((Below.refl w6.heap.size w6).alloc (Nat.le_refl _) (.cells #[.int .i64 10, .int .i64 nn, .slice y1 lN s1, .slice z1 lA t1] 43)).size)
          have EM : Hid ([(⟨(flip m), y1, s1, z1, t1⟩ : Me)].flatMap mcells = [.int .i64 10, .int .i64 nn, .slice y1 lN s1, .slice z1 lA t1]) := hid (by
            simp only [List.flatMap_cons, List.flatMap_nil, List.append_nil, mcells]
            rw [E.out, HFL.out.1, HFL.out.2.1, HFL.out.2.2, hN'.out, hA'.out])
          have Q7 : Hid (∀ j u, ([(⟨(flip m), y1, s1, z1, t1⟩ : Me)].flatMap mcells)[j]? = some u → (w6.alloc (.cells #[.int .i64 10, .int .i64 nn, .slice y1 lN s1, .slice z1 lA t1] 43)).cell? ((⟨w6.heap.size, 0, none⟩ : Addr).add j) = some u) := hid (fun j u h => cells_new w6 [.int .i64 10, .int .i64 nn, .slice y1 lN s1, .slice z1 lA t1] 43 j u (by rw [EM.out] at h; exact h))
          have P7 : Hid (∀ e ∈ [(⟨(flip m), y1, s1, z1, t1⟩ : Me)], MeIn wp e) := hid (fun e he => by rw [List.mem_singleton.1 he]; exact FM.out)
          clear R6 W6
          have hlen : (fa ++ fb).length ≤ 800 := by rw [List.length_append]; omega
          generalize fa ++ fb = fab at *
          go_wp2_with (at_builtin; refine wpList_append_mats [(⟨(flip m), y1, s1, z1, t1⟩ : Me)] rfl _ _ rfl rfl rfl R7.out rfl Q7.out P7.out (by omega) PSz.out S7.out ?_; intro v8 w8 r8 g8 b8 l8)
          have R8 := hid (r8.base (B' := w.heap.size) SW.out)
          have W8 := hid (W7.out.trans (b8.mono SW.out))
          clear r8 g8 b8 l8
          go_ret
          refine ⟨_, rfl, ?_, W8.out⟩
          rw [EF.out]
          exact R8.out
        · have E := hid (FO2.out h9)
          have h9' : (o == 9) = false := by simpa using h9
          have h10 : (o == 10) = true := by have := HO.out; simp; omega
          clear h9 d910
          obtain ⟨m0, m1, m2, m3⟩ := bl4 KM.out
          go_enter Tryd.func10, Tryd.ntmps10
          go_upto_region 2 with fail
          rw [HW.out]
          clear k0 k1 k2 k3
          go_upto_region 5 with fail
          go_wp2_with fail
          rw [HKK.out]
          refine AH.out.mono ?_
          rintro e w1 ⟨rfl, rfl⟩
          go_wp2_with fail
          rw [HKA.out]
          refine (IA.out _ (Below.refl _ _)).mono ?_
          rintro e w2 ⟨va, rfl, ra, d⟩
          have RA := hid (ra.base (B' := w.heap.size + 1) (by omega))
          have M2 := hid (KM.out.below d)
          have W2 := hid (grown_on WW.out d)
          have D2 := hid d
          clear ra d m0 m1 m2 m3 KM WW AH IA HKA
          go_wp2_with fail
          rw [HKK.out]
          refine (IB.out _ D2.out).mono ?_
          rintro e w3 ⟨vb, rfl, rb, d⟩
          have RB := hid (rb.base (B' := w.heap.size + 1) (by have := D2.out.size; omega))
          replace RA := hid (RA.out.stay d)
          have M3 := hid (M2.out.below d)
          have W3 := hid (grown_on W2.out d)
          clear rb d D2 M2 W2 IB HKK
          obtain ⟨m0, m1, m2, m3⟩ := bl4 M3.out
          have z0 := M3.out.frozen 0
          have hps := PS.out
          have M4 : Hid (Bl 43 (w3.setCell ⟨w.heap.size, 0, none⟩ (.int .i64 9)) w.heap.size #[.int .i64 9, .int .i64 nn, .slice y1 lN s1, .slice z1 lA t1]) := hid (M3.out.set 0 (.int .i64 9))
          have R4a := hid (RA.out.far (p := ⟨w.heap.size, 0, none⟩) hps (Nat.lt_succ_self _) (.int .i64 9))
          have R4b := hid (RB.out.far (p := ⟨w.heap.size, 0, none⟩) hps (Nat.lt_succ_self _) (.int .i64 9))
          have W4 := hid (W3.out.setCell (p := ⟨w.heap.size, 0, none⟩) (Nat.le_refl _) (.int .i64 9))
          go_upto_region 12 with fail
          clear m0 m1 m2 m3 z0
          generalize w3.setCell ⟨w.heap.size, 0, none⟩ (.int .i64 9) = wc at *
          have M4lt := hid M4.out.lt
          have SW := hid W4.out.size
          have PP : Hid (Below wp.heap.size wp wc) := hid (HP.out.trans (W4.out.mono PS.out))
          obtain ⟨ga, ca, La, rfl, ela, pa, hga, hga2, qa⟩ := R4a.out.own hap
          obtain ⟨gb, cb, Lb, rfl, elb, pb, hgb, hgb2, qb⟩ := R4b.out.own hbp2
          have QA := hid qa
          have HLa := hid ela
          have PA := hid pa
          have hlA : Hid (La.length = fa.length) := hid (by rw [← ela, List.length_map])
          clear qa ela pa R4a qb elb pb RA RB M3 W3 hgb hgb2 hga hga2 Lb
          have hfa : fa.length ≤ 400 := hal
          have N0 := hid (MRow.nil wc.heap.size PP.out)
          have PSz := hid PP.out.size
          go_upto_region 13 with (at_builtin; refine wpList_append_mats La rfl _ _ rfl rfl rfl N0.out hlA.out QA.out PA.out (by simp; omega) PSz.out (Nat.le_refl _) ?_; intro v5 w5 r5 g5 b5 l5)
          rw [HLa.out, List.nil_append] at r5
          have R5 := hid r5
          have R5b := hid (R4b.out.stay b5)
          have M5 := hid (M4.out.below b5)
          have W5 := hid (grown_on W4.out b5)
          have S5 := hid b5.size
          clear r5 g5 b5 l5 N0 QA PA HLa hlA R4b M4 W4
          obtain ⟨gb2, cb2, Lb, eb2, elb, pb, hgb, hgb2, qb⟩ := R5b.out.own hbp2
          obtain ⟨rfl, rfl⟩ : gb = gb2 ∧ cb = cb2 := by
            simp only [Value.slice.injEq, Option.some.injEq, Addr.mk.injEq] at eb2
            exact ⟨eb2.1.1, eb2.2.2⟩
          have QB := hid qb
          have HLb := hid elb
          have PB := hid pb
          have hlB : Hid (Lb.length = fb.length) := hid (by rw [← elb, List.length_map])
          clear qb elb pb eb2 hgb hgb2 R5b
          go_upto_region 14 with (at_builtin; refine wpList_append_mats Lb rfl _ _ rfl rfl rfl R5.out hlB.out QB.out PB.out (by omega) PSz.out S5.out ?_; intro v6 w6 r6 g6 b6 l6)
          rw [HLb.out] at r6
          have R6 := hid r6
          have M6 := hid (M5.out.under M4lt.out b6)
          have W6 := hid (W5.out.trans (b6.mono (Nat.le_of_lt M4lt.out)))
          have S6 := hid (Nat.le_trans S5.out b6.size)
          clear r6 g6 b6 l6 R5 QB PB HLb hlB M5 W5
          obtain ⟨m0, m1, m2, m3⟩ := bl4 M6.out
          have R7 := hid (R6.out.stay ((Below.refl w6.heap.size w6).alloc (Nat.le_refl _) (.cells #[.int .i64 9, .int .i64 nn, .slice y1 lN s1, .slice z1 lA t1] 43)))
          have W7 := hid (W6.out.alloc W6.out.size (.cells #[.int .i64 9, .int .i64 nn, .slice y1 lN s1, .slice z1 lA t1] 43))
          have S7 := hid (Nat.le_trans S6.out ((Below.refl w6.heap.size w6).alloc (Nat.le_refl _) (.cells #[.int .i64 9, .int .i64 nn, .slice y1 lN s1, .slice z1 lA t1] 43)).size)
          have EM : Hid ([(⟨(flip m), y1, s1, z1, t1⟩ : Me)].flatMap mcells = [.int .i64 9, .int .i64 nn, .slice y1 lN s1, .slice z1 lA t1]) := hid (by
            simp only [List.flatMap_cons, List.flatMap_nil, List.append_nil, mcells]
            rw [E.out, HFL.out.1, HFL.out.2.1, HFL.out.2.2, hN'.out, hA'.out])
          have Q7 : Hid (∀ j u, ([(⟨(flip m), y1, s1, z1, t1⟩ : Me)].flatMap mcells)[j]? = some u → (w6.alloc (.cells #[.int .i64 9, .int .i64 nn, .slice y1 lN s1, .slice z1 lA t1] 43)).cell? ((⟨w6.heap.size, 0, none⟩ : Addr).add j) = some u) := hid (fun j u h => cells_new w6 [.int .i64 9, .int .i64 nn, .slice y1 lN s1, .slice z1 lA t1] 43 j u (by rw [EM.out] at h; exact h))
          have P7 : Hid (∀ e ∈ [(⟨(flip m), y1, s1, z1, t1⟩ : Me)], MeIn wp e) := hid (fun e he => by rw [List.mem_singleton.1 he]; exact FM.out)
          clear R6 W6
          have hlen : (fa ++ fb).length ≤ 800 := by rw [List.length_append]; omega
          generalize fa ++ fb = fab at *
          go_wp2_with (at_builtin; refine wpList_append_mats [(⟨(flip m), y1, s1, z1, t1⟩ : Me)] rfl _ _ rfl rfl rfl R7.out rfl Q7.out P7.out (by omega) PSz.out S7.out ?_; intro v8 w8 r8 g8 b8 l8)
          have R8 := hid (r8.base (B' := w.heap.size) SW.out)
          have W8 := hid (W7.out.trans (b8.mono SW.out))
          clear r8 g8 b8 l8
          go_ret
          refine ⟨_, rfl, ?_, W8.out⟩
          rw [EF.out]
          exact R8.out
    exact GO m.op rfl ho

end Go.Proofs.YtdkpdlkcloaoeaaDoor.Ru

namespace Go.Proofs.YtdkpdlkcloaoeaaDoor.Ru
open Go.RowKit Go.Deep

theorem held_whole {x y z : Option Addr} {c l s t : Nat} (q : Qy) (r : List Mt) (tr : T) (v : Bool) (w : World) (h : Mats w x c r) (hl : r.length = l) (hq : QyIs w q y s z t) (hE : ruleE r = 0) (hf : flat tr = r) (hw : wf tr) (hv : ev q tr = v) :
    Calls Tryd.prog 8 #[.slice x l c, .int .i64 ((l : Int) - 1), .agg #[.slice y q.N.length s, .int .i64 q.ty, .int .i64 q.cl, .int .i64 q.opc, .bool q.rd, .slice z q.F.length t]] w fun e w' => e = .returned (.bool v) ∧ Below w.heap.size w w' := by
  have e : [] ++ flat tr ++ [] = r := by simp [hf]
  have hp := flat_pos tr
  rw [hf] at hp
  have e2 : ((l : Int) - 1) = ((l - 1 : Nat) : Int) := by omega
  rw [e2]
  exact held_at q tr [] [] (l - 1) v w (by rw [e]; exact h) (by rw [e]; exact hl) hq hw (by rw [hf]; exact ruleE_node hE) (by rw [hf]; simp; omega) hv

theorem pled_whole {x : Option Addr} {c l : Nat} (r : List Mt) (tr : T) (w : World) (h : Mats w x c r) (hl : r.length = l) (hE : ruleE r = 0) (hf : flat tr = r) (hw : wf tr) :
    Calls Tryd.prog 10 #[.slice x l c, .int .i64 ((l : Int) - 1), .bool false] w fun e w' => ∃ y d, e = .returned (.slice y (flat (pl tr false)).length d) ∧ Mats w' y d (flat (pl tr false)) ∧ Below w.heap.size w w' := by
  have e : [] ++ flat tr ++ [] = r := by simp [hf]
  have hp := flat_pos tr
  have h2 := ruleE_len hE
  have h3 := pl_len tr false
  rw [hf] at hp h3
  have e2 : ((l : Int) - 1) = ((l - 1 : Nat) : Int) := by omega
  rw [e2]
  refine (pled_at tr [] [] (l - 1) false w w (by rw [e]; exact h) (by rw [e]; exact hl) (by rw [e]; exact h2) (Below.refl _ _) hw (by rw [hf]; simp; omega)).mono ?_
  rintro e w' ⟨v, rfl, hr, hb⟩
  obtain ⟨y, d, rfl, hm⟩ := hr.mats (by omega)
  exact ⟨y, d, rfl, hm, hb⟩

set_option maxHeartbeats 4000000 in
set_option maxRecDepth 100000 in
theorem rtell_walk {x y z : Option Addr} {c l s t : Nat} (r : List Mt) (q : Qy) (w : World) (h : Mats w x c r) (hl : r.length = l) (hq : QyIs w q y s z t) (hg : Glob w) :
    Calls Tryd.prog 3 #[.slice x l c, .agg #[.slice y q.N.length s, .int .i64 q.ty, .int .i64 q.cl, .int .i64 q.opc, .bool q.rd, .slice z q.F.length t]] w fun e w' => e = .returned (.bool true) ∧ Below w.heap.size w w' := by
  have B0 := (Below.refl w.heap.size w).alloc (Nat.le_refl _) (.cells #[.slice y q.N.length s, .int .i64 q.ty, .int .i64 q.cl, .int .i64 q.opc, .bool q.rd, .slice z q.F.length t] 26)
  have KQ := hid (Bl.new 26 w #[.slice y q.N.length s, .int .i64 q.ty, .int .i64 q.cl, .int .i64 q.opc, .bool q.rd, .slice z q.F.length t])
  have HH := hid (h.below B0)
  have QQ := hid (hq.below B0)
  have HG := hid (hg.below B0)
  have WW := hid B0
  have HL := hid hl
  have hlen : l ≤ 4000000000000 := by rw [← hl]; exact h.2.1
  clear B0 h hq hg hl
  obtain ⟨w0, hw0⟩ : ∃ w0, w.alloc (.cells #[.slice y q.N.length s, .int .i64 q.ty, .int .i64 q.cl, .int .i64 q.opc, .bool q.rd, .slice z q.F.length t] 26) = w0 := ⟨_, rfl⟩
  rw [hw0] at KQ HH QQ HG WW
  have HW := hid hw0
  clear hw0
  obtain ⟨k, hk⟩ : ∃ k, ruleE r = k := ⟨_, rfl⟩
  have HK := hid hk
  have EV : Hid (errV (ruleE r) = errV k) := hid (by rw [hk])
  go_enter Tryd.func3, Tryd.ntmps3
  go_upto_region 1 with fail
  rw [HW.out]
  clear HW
  go_wp2_with fail
  refine (asked_any w0).mono ?_
  rintro e w1 ⟨rfl, b⟩
  replace KQ := hid (KQ.out.below b)
  replace HH := hid (HH.out.below b)
  replace QQ := hid (QQ.out.below b)
  replace HG := hid (HG.out.below b)
  replace WW := hid (grown_on WW.out b)
  clear b
  go_wp2_with fail
  refine (rfault_at k r w1 HH.out HL.out HK.out).mono ?_
  rintro e w2 ⟨rfl, b⟩
  replace KQ := hid (KQ.out.below b)
  replace HH := hid (HH.out.below b)
  replace QQ := hid (QQ.out.below b)
  replace HG := hid (HG.out.below b)
  replace WW := hid (grown_on WW.out b)
  clear b
  go_wp2_with fail
  refine (rcheck_any r (errV k) w2 HH.out HL.out EV.out).mono ?_
  rintro e w3 ⟨rfl, b⟩
  replace KQ := hid (KQ.out.below b)
  replace HH := hid (HH.out.below b)
  replace QQ := hid (QQ.out.below b)
  replace HG := hid (HG.out.below b)
  replace WW := hid (grown_on WW.out b)
  clear b
  go_wp2_with fail
  refine (error_at k k (errV k) w3 HG.out rfl rfl).mono ?_
  rintro e w4 ⟨rfl, b⟩
  replace KQ := hid (KQ.out.below b)
  replace HH := hid (HH.out.below b)
  replace QQ := hid (QQ.out.below b)
  replace HG := hid (HG.out.below b)
  replace WW := hid (grown_on WW.out b)
  clear b
  obtain ⟨c0, c1, c2, c3, c4, c5⟩ := bl6 KQ.out
  by_cases h0 : k = 0
  · subst h0
    obtain ⟨tr, hf, hw⟩ := ruleE_tree HK.out
    have HF := hid hf
    have HWf := hid hw
    clear hf hw hk
    obtain ⟨i, hi⟩ : ∃ i, ev q tr = i := ⟨_, rfl⟩
    have HI := hid hi
    clear hi
    have EZ : Hid (errV 0 = .nilIface) := hid rfl
    have hl1 : 1 ≤ l := by have := flat_pos tr; have e := HF.out; rw [e] at this; have := HL.out; omega
    go_wp2_with fail
    refine (held_whole q r tr i w4 HH.out HL.out QQ.out HK.out HF.out HWf.out HI.out).mono ?_
    rintro e w5 ⟨rfl, b⟩
    replace KQ := hid (KQ.out.below b)
    replace HH := hid (HH.out.below b)
    replace QQ := hid (QQ.out.below b)
    replace HG := hid (HG.out.below b)
    replace WW := hid (grown_on WW.out b)
    clear b c0 c1 c2 c3 c4 c5
    obtain ⟨c0, c1, c2, c3, c4, c5⟩ := bl6 KQ.out
    go_wp2_with fail
    refine (rholds_good r tr q i w5 HH.out HL.out QQ.out HK.out HF.out HWf.out HI.out).mono ?_
    rintro e w6 ⟨rfl, b⟩
    replace HH := hid (HH.out.below b)
    replace HG := hid (HG.out.below b)
    replace WW := hid (grown_on WW.out b)
    clear b c0 c1 c2 c3 c4 c5 KQ QQ
    go_wp2_with fail
    refine (error_at 0 0 .nilIface w6 HG.out rfl rfl).mono ?_
    rintro e w7 ⟨rfl, b⟩
    replace HH := hid (HH.out.below b)
    replace HG := hid (HG.out.below b)
    replace WW := hid (grown_on WW.out b)
    clear b
    go_wp2_with fail
    refine (pled_whole r tr w7 HH.out HL.out HK.out HF.out HWf.out).mono ?_
    rintro e w8 ⟨y1, d1, rfl, hm, b⟩
    replace HH := hid (HH.out.below b)
    replace HG := hid (HG.out.below b)
    replace WW := hid (grown_on WW.out b)
    have HM := hid hm
    clear b hm
    have RG := hid (fun u (hu : Mats u x c r) => rplain_good (l := l) r tr u hu HL.out HK.out HF.out HWf.out)
    have RF := hid (fun u (hu : Mats u x c r) => rplain_full (l := l) r tr u hu HL.out HK.out HF.out HWf.out)
    have hpl : (flat (pl tr false)).length ≤ 400 := by
      have h3 := pl_len tr false
      have h2 := ruleE_len HK.out
      rw [HF.out] at h3
      omega
    generalize flat (pl tr false) = P at *
    by_cases hp : P.length ≤ 200
    · have hp' : ¬ (200 : Int) < (P.length : Int) := by omega
      have RG2 := hid (fun u (hu : Mats u x c r) => RG.out u hu hp)
      clear hp RG RF
      go_wp2_with fail
      refine (RG2.out w8 HH.out).mono ?_
      rintro e w9 ⟨y2, d2, rfl, hm2, b⟩
      replace HM := hid (HM.out.below b)
      replace HG := hid (HG.out.below b)
      replace WW := hid (grown_on WW.out b)
      have HM2 := hid hm2
      clear b hm2
      go_wp2_with fail
      refine (error_at 0 0 .nilIface w9 HG.out rfl rfl).mono ?_
      rintro e w10 ⟨rfl, b⟩
      replace HM := hid (HM.out.below b)
      replace HM2 := hid (HM2.out.below b)
      replace WW := hid (grown_on WW.out b)
      clear b
      go_wp2_with fail
      refine (matches_same P w10 HM2.out HM.out rfl rfl).mono ?_
      rintro e w11 ⟨rfl, d⟩
      replace WW := hid (WW.out.trans (d.below _))
      clear d
      go_wp2_with fail
      go_ret
      exact ⟨rfl, WW.out⟩
    · have hp' : (200 : Int) < (P.length : Int) := by omega
      have RF2 := hid (fun u (hu : Mats u x c r) => RF.out u hu hp)
      clear hp RG RF
      go_wp2_with fail
      refine (RF2.out w8 HH.out).mono ?_
      rintro e w9 ⟨rfl, b⟩
      replace HG := hid (HG.out.below b)
      replace WW := hid (grown_on WW.out b)
      clear b
      go_wp2_with fail
      refine (error_at 7 7 (.iface 28 (.int .i64 7)) w9 HG.out rfl rfl).mono ?_
      rintro e w10 ⟨rfl, b⟩
      replace WW := hid (grown_on WW.out b)
      clear b
      go_wp2_with fail
      refine (matches_same [] w10 (Mats.nil _ _ _) (Mats.nil _ _ _) rfl rfl).mono ?_
      rintro e w11 ⟨rfl, d⟩
      replace WW := hid (WW.out.trans (d.below _))
      clear d
      go_wp2_with fail
      go_ret
      exact ⟨rfl, WW.out⟩
  · have h0' : (k == 0) = false := by simpa using h0
    have EK : Hid (¬ ruleE r = 0) := hid (by rw [hk]; exact h0)
    clear h0 hk
    go_wp2_with fail
    refine (rholds_bad r q (errV k) w4 HH.out HL.out QQ.out EK.out EV.out).mono ?_
    rintro e w6 ⟨rfl, b⟩
    replace HH := hid (HH.out.below b)
    replace HG := hid (HG.out.below b)
    replace WW := hid (grown_on WW.out b)
    clear b c0 c1 c2 c3 c4 c5 KQ QQ
    go_wp2_with fail
    refine (error_at k k (errV k) w6 HG.out rfl rfl).mono ?_
    rintro e w7 ⟨rfl, b⟩
    replace HH := hid (HH.out.below b)
    replace HG := hid (HG.out.below b)
    replace WW := hid (grown_on WW.out b)
    clear b
    go_wp2_with fail
    refine (rplain_bad r (errV k) w7 HH.out HL.out EK.out EV.out).mono ?_
    rintro e w9 ⟨rfl, b⟩
    replace HG := hid (HG.out.below b)
    replace WW := hid (grown_on WW.out b)
    clear b
    go_wp2_with fail
    refine (error_at k k (errV k) w9 HG.out rfl rfl).mono ?_
    rintro e w10 ⟨rfl, b⟩
    replace WW := hid (grown_on WW.out b)
    clear b
    go_wp2_with fail
    refine (matches_same [] w10 (Mats.nil _ _ _) (Mats.nil _ _ _) rfl rfl).mono ?_
    rintro e w11 ⟨rfl, d⟩
    replace WW := hid (WW.out.trans (d.below _))
    clear d
    go_wp2_with fail
    go_ret
    exact ⟨rfl, WW.out⟩

end Go.Proofs.YtdkpdlkcloaoeaaDoor.Ru

namespace Go.Proofs.YtdkpdlkcloaoeaaDoor
open Go.ChangeShapes Go.WideShapes Go.ChangeAt Go.RowKit Go.Deep

theorem Laid.et : Tryd.prog.globalNamed "errors.errorType" = some 0 := by kernel_rfl
theorem Laid.rt : (Tryd.prog.cutTypes.find? (·.1 == "internal/reflectlite.rtype")).map (·.2) = some 86 := by kernel_rfl
theorem Laid.oneRow : ((List.range 132).filter fun t => Tryd.prog.rowNamed t [101, 114, 114, 111, 114]) = [32] := by kernel_rfl
theorem Laid.size : Tryd.prog.types.size = 132 := by kernel_rfl

theorem glob_of_laid {W : World} (h : laidMetH Tryd.prog [("errors.errorType", Rows.laid_errors_errorType)] W) : Glob W := by
  have h' : laidMet Tryd.prog [] W ∧ handlesMet Tryd.prog [("errors.errorType", Rows.laid_errors_errorType)] W := h
  obtain ⟨name, u, ty, e1, e2, e3, e4, e5⟩ := h'.2 _ (List.mem_singleton.2 rfl)
  have en : name = [101, 114, 114, 111, 114] := (Option.some.inj e1).symm
  subst en
  obtain rfl := Option.some.inj (Laid.rt.symm.trans e2)
  have hm : ty ∈ (List.range 132).filter fun t => Tryd.prog.rowNamed t [101, 114, 114, 111, 114] := List.mem_filter.2 ⟨List.mem_range.2 (by rw [← Laid.size]; exact e3), e4⟩
  rw [Laid.oneRow] at hm
  obtain rfl := List.mem_singleton.1 hm
  have hh : typeHandle Tryd.prog 32 = .pointer (some ⟨1, 32, none⟩) := by kernel_rfl
  rw [hh] at e5
  unfold Glob
  simpa using World.var?_cell Laid.et e5 0

theorem door_met (os : Os) (args : Array Value) : laidMetH Tryd.prog [("errors.errorType", Rows.laid_errors_errorType)] ((World.doorLaid Tryd.prog 400 os).forCall (fun _ _ => 0) ⟨#[], args, []⟩).memory :=
  laidMetH_of_parts3 (fuel := 8) (laidMet_of_run' 8 (by kernel_rfl) (by kernel_rfl)) (by kernel_rfl) (by kernel_rfl)

end Go.Proofs.YtdkpdlkcloaoeaaDoor

namespace Go.Proofs.YtdkpdlkcloaoeaaDoor
open Go.ChangeShapes Go.WideShapes Go.ChangeAt Go.RowKit Go.Deep

set_option maxRecDepth 100000 in
theorem rtell_lifted (os : Os) (started : os.Started) (H : Type) (enc : TypeId × Value → H) :
    ReturnsInHanded {} Tryd.checked os 3 .any (fun w args => (Rows.ruleTellsSpec.pre enc Tryd.prog Tryd.f3 [] false w args ∧ laidMetH Tryd.prog [("errors.errorType", Rows.laid_errors_errorType)] w) ∧ sizedMet enc Tryd.prog Tryd.f3 (OpenSpec.ofChange Rows.ruleTellsSpec) false w args)
      (Rows.ruleTellsSpec.post enc Tryd.prog Tryd.f3 false true false false) := by
  refine returnsInHanded_of_change_and (C := Tryd.checked) (X := fun w _ => laidMetH Tryd.prog [("errors.errorType", Rows.laid_errors_errorType)] w) (fun _ _ _ hh h => h.of_heap hh) own started (by kernel_rfl) Tryd.func3
    (ChangeSpec.witness_shaped (enc := enc) (C := Tryd.checked) (os := os) (X := fun w _ => laidMetH Tryd.prog [("errors.errorType", Rows.laid_errors_errorType)] w) false (World.doorLaid Tryd.prog 400 os) #[.slice none 0 0, .agg #[.slice none 0 0, .int .i64 0, .int .i64 0, .int .i64 0, .bool false, .slice none 0 0]] 8 rfl (World.shaped_of_RefB (by kernel_rfl) (by kernel_rfl)) (by kernel_rfl) (by kernel_rfl) (by kernel_rfl) (door_met os _)) ?_
  intro W base args ds gs before hval0 hW _ hsz0 hL _
  have hval : ∀ (j : Nat) t v, Tryd.f3.params[j]? = some t → args[j]? = some v → Value.okWide Tryd.prog W .any base t v := hval0
  have hsz : (DataW.weightsEach Tryd.prog (Tryd.f3.params.toList ++ Rows.ruleTellsSpec.plain.varTypes Tryd.prog) (ds ++ gs)).all (· ≤ reachBytes) = true := hsz0
  have hW' := hW
  obtain ⟨p, q, hA0, hV, rfl, hfz, hnd⟩ := hW
  have hA : DataW.TrodAll enc Tryd.prog W 0 (fun _ => true) true Tryd.f3.params.toList args.toList ds p := hA0
  rw [Tryd.params3] at hA hval hsz
  obtain ⟨v0, vs0, d0, ds0, p0, q0, hargs, rfl, rfl, h0, r0⟩ := trodAll_cons hA
  obtain ⟨v1, vs1, d1, ds1, p1, q1, rfl, rfl, rfl, h1, r1⟩ := trodAll_cons r0
  obtain ⟨rfl, rfl, rfl⟩ := trodAll_nil r1
  obtain rfl : args = #[v0, v1] := by cases args; simp_all
  obtain ⟨rfl, rfl⟩ := trodVars_none hV
  obtain ⟨x0, l0, c0, rfl⟩ := okWide_slice Tryd.underlying22 (hval 0 22 v0 rfl rfl)
  obtain ⟨cs1, rfl, _⟩ := okWide_struct Tryd.underlying26 (hval 1 26 v1 rfl rfl)
  have k0 := h0
  have k1 := h1
  have lt0 : ∀ x ∈ p0, x.block < W.heap.size := by obtain ⟨m, hm⟩ := k0; exact DataW.trod_lt m _ _ _ hm
  have lt1 : ∀ x ∈ p1, x.block < W.heap.size := by obtain ⟨m, hm⟩ := k1; exact DataW.trod_lt m _ _ _ hm
  obtain ⟨f0, g0⟩ := h0
  obtain ⟨a0, j0, s0, u0⟩ := Ru.matches_of g0 (fun n hn => by simpa using List.all_eq_true.1 hsz n (DataW.weights_mem_each (j := 0) (t := 22) rfl rfl n hn))
  obtain ⟨f1, g1⟩ := h1
  obtain ⟨yq1, zq1, sq1, tq1, qu1, hcs1, s1⟩ := Ru.query_of g1 (fun n hn => by simpa using List.all_eq_true.1 hsz n (DataW.weights_mem_each (j := 1) (t := 26) rfl rfl n hn))
  obtain ⟨csl1⟩ := cs1
  have hcs1' : csl1 = _ := hcs1
  subst hcs1'
  have hg := glob_of_laid hL
  clear hA0 hval0 hsz0
  refine (Ru.rtell_walk a0 qu1 W s0 j0 s1 hg).mono fun e W' ⟨he, bel⟩ => ?_
  subst he
  exact ⟨_, rfl, _, _, _, [], _, [], hW', trodAll_mk1 (shut_bool Tryd.underlying4 _), (trodAll_cons_mk (Below.trod laidOut (by kernel_rfl) (of_decide_eq_true (by kernel_rfl)) k0 bel lt0) (trodAll_cons_mk (Below.trod laidOut (by kernel_rfl) (of_decide_eq_true (by kernel_rfl)) k1 bel lt1) trodAll_mk0)), rfl, bel.frame _, fun h => by cases h⟩

theorem rtell_over : Rows.RuleTellsSaid :=
  OpenClaim.holds_of_wide 3 Tryd.f3 rfl rfl rfl rfl rfl rfl rfl ⟨rfl, rfl, rfl, rfl, rfl⟩ rfl rfl rfl rfl rfl (by kernel_rfl) Tryd.func3 (by kernel_rfl)
    (of_decide_eq_true (by kernel_rfl)) (by unfold Func.isWrapper; rw [if_neg (of_decide_eq_false (by kernel_rfl))]; exact ⟨rfl, rfl⟩)
    (fun os started H enc _ => rtell_lifted os started H enc)

theorem rtell_holds : Rows.RuleTellsCardSaid :=
  Claim7.holds_tied_plain_at .later [] [.handle] true Rows.ruleTellsCard.stood.harness true
    rtell_over (fun _ h => by cases h) (by kernel_rfl) (fun _ h => by cases h) ruleTells_row_tie rfl ⟨rfl, rfl⟩ (by kernel_rfl) rfl
    (fun f fn hf hfn => by
      obtain rfl : f = 3 := Option.some.inj ((show Tryd.prog.funcNamed "pointsman/pointsmanlaw2.RuleTells" = some 3 by kernel_rfl).symm.trans hf) |>.symm
      obtain rfl : fn = Tryd.f3 := (Option.some.inj (Tryd.func3.symm.trans hfn)).symm
      exact ⟨by kernel_rfl, fun j t ht => by
        rw [Tryd.params3] at ht
        have hm : t ∈ [22, 26] := by simpa using Array.mem_of_getElem? ht
        have hall : ([22, 26].all fun u => !Tryd.prog.wantsStandIn u) = true := by kernel_rfl
        exact (show Tryd.prog.wantsStandIn t = false by simpa using List.all_eq_true.1 hall t hm)⟩)
    (by kernel_rfl)
#print axioms rtell_holds
end Go.Proofs.YtdkpdlkcloaoeaaDoor
