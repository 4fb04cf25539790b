/-
  The walk of the document's own answer Held: does a rule hold? Written by genheld.py. The walks of the document's own answers on rules in a row: ChainFault, FirstOf. The walk of the law ChainTells. Written by a script. What the tied list of one variable (what the library keeps of the type of errors) gives a walk: that variable's cell; and a start that meets it: the heap that the door's own run leaves. For every row of rules, every query and every number, in whatever memory in which the library variable errors.errorType reads as the program text lays it, the law ChainTells returns true and leaves its arguments as they were. No condition but the row own bounds on sizes.
-/
import Derived.Test.YtnbabdfcamdapaaDoorJB
import Derived.Test.YtnbabdfcamdapaaDoorRefOrder
import Derived.Test.YtnbabdfcamdapaaDoorJC
import Derived.Test.YtnbabdfcamdapaaDoorForkT
import Derived.Deep.CutRange
import Derived.Test.YtnbabdfcamdapaaDoorJF
import Derived.Test.YtnbabdfcamdapaaDoorJA
import Derived.Deep.Cut
import Derived.Test.YtnbabdfcamdapaaDoorRefFault
import Derived.Test.YtnbabdfcamdapaaDoorRow
import Derived.ChangeSame
import Derived.ChangeVars
import Derived.JoinedOf
import Derived.LaidLaws
import Derived.LaidHandle
import Derived.LaidMore
import Derived.Stop.Joined
import Derived.Test.YtnbabdfcamdapaaDoorTie
import Derived.Test.YtnbabdfcamdapaaDoorCards
import Derived.SevenTiedAt
namespace Go.Proofs.YtnbabdfcamdapaaDoor.Ru
open Go.RowKit Go.Deep

/-- The node at a place of a list. -/
theorem at_last {pre post : List Mt} {f : List Mt} {m : Mt} {k : Nat} (hk : pre.length + (f ++ [m]).length = k + 1) : ∃ h : k < (pre ++ (f ++ [m]) ++ post).length, (pre ++ (f ++ [m]) ++ post)[k] = m := by
  have hl : k = pre.length + f.length := by simp at hk; omega
  refine ⟨by simp; omega, ?_⟩
  have e : (pre ++ (f ++ [m]) ++ post)[k]? = some m := by
    rw [List.append_assoc, List.getElem?_append_right (by omega), List.append_assoc, List.getElem?_append_right (by omega)]
    rw [show k - pre.length - f.length = 0 by omega]
    rfl
  rw [List.getElem?_eq_getElem (by simp; omega)] at e
  exact Option.some.inj e

theorem leaf_ops {m : Mt} (h : matchE m = 0) (k : takes m.op = 0) : m.op = 1 ∨ m.op = 2 ∨ m.op = 3 ∨ m.op = 4 ∨ m.op = 5 ∨ m.op = 6 ∨ m.op = 7 := by
  unfold matchE at h
  split at h
  · cases h
  · unfold takes at k
    split at k
    · cases k
    · split at k
      · cases k
      · omega

theorem from_bounds {m : Mt} (h : matchE m = 0) (k : m.op = 7) : 0 ≤ m.n ∧ m.n ≤ 8 * (m.A.length : Int) ∧ m.A.length ≤ 16 := by
  unfold matchE at h
  split at h
  · cases h
  · split at h
    · cases h
    · split at h
      · omega
      · split at h
        · cases h
        · split at h
          · cases h
          · have e : mostN m.op m.A.length = 8 * (m.A.length : Int) := by unfold mostN; rw [if_pos k]
            generalize mostN m.op m.A.length = mm at *
            omega

set_option maxHeartbeats 4000000 in
set_option maxRecDepth 100000 in
theorem held_leaf {x y z : Option Addr} {c l s t : Nat} (q : Qy) (m : Mt) (k : Nat) (r : List Mt) (w : World) (h : Mats w x c r) (hl : r.length = l) (hq : QyIs w q y s z t) (hm : takes m.op = 0) (hE : matchE m = 0) (hk : k < r.length) (hget : r[k] = m) :
    Calls Tryd.prog 14 #[.slice x l c, .int .i64 (k : Int), .agg #[.slice y q.N.length s, .int .i64 q.ty, .int .i64 q.cl, .int .i64 q.opc, .bool q.rd, .slice z q.F.length t]] w fun e w' => e = .returned (.bool (leafEv q m)) ∧ Below w.heap.size w w' := by
  obtain ⟨b, off, rfl, hb, y1, s1, z1, t1, k0, k1, k2, k3, hS, hB, _⟩ := h.here hk
  rw [hget] at k0 k1 k2 k3 hS hB
  have hlen := h.2.1
  subst hl
  have hkl : (k : Int) < (r.length : Int) := by omega
  obtain ⟨B1, B2, B3⟩ := rlTwo 26 44 w #[.slice y q.N.length s, .int .i64 q.ty, .int .i64 q.cl, .int .i64 q.opc, .bool q.rd, .slice z q.F.length t] #[.int .i64 m.op, .int .i64 m.n, .slice y1 m.N.length s1, .slice z1 m.A.length t1]
  have hb1 := (Below.refl w.heap.size w).alloc (Nat.le_refl _) (.cells #[.slice y q.N.length s, .int .i64 q.ty, .int .i64 q.cl, .int .i64 q.opc, .bool q.rd, .slice z q.F.length t] 26)
  have g0 := (hb1.cell (p := ⟨b, off + k * 4, none⟩) hb).trans k0
  have g1 := (hb1.cell (p := ⟨b, off + k * 4 + 1, none⟩) hb).trans k1
  have g2 := (hb1.cell (p := ⟨b, off + k * 4 + 2, none⟩) hb).trans k2
  have g3 := (hb1.cell (p := ⟨b, off + k * 4 + 3, none⟩) hb).trans k3
  have SS := hid (hS.below B3)
  have DD := hid (hB.below B3)
  have QQ := hid (hq.below B3)
  have F7 := hid (fun e => from_bounds (m := m) hE e)
  have OPS := leaf_ops hE hm
  obtain ⟨W1, hW⟩ : ∃ W1, (w.alloc (.cells #[.slice y q.N.length s, .int .i64 q.ty, .int .i64 q.cl, .int .i64 q.opc, .bool q.rd, .slice z q.F.length t] 26)).alloc (.cells #[.int .i64 m.op, .int .i64 m.n, .slice y1 m.N.length s1, .slice z1 m.A.length t1] 44) = W1 := ⟨_, rfl⟩
  rw [hW] at B1 B2 B3 SS DD QQ
  have HW := hid hW
  have WW := hid B3
  obtain ⟨q0, q1, q2, q3, q4, q5⟩ := bl6 B1
  obtain ⟨m0, m1, m2, m3⟩ := bl4 B2
  clear k0 k1 k2 k3 hS hB h hq hb1 hE hm hget B1 B2 B3 hW
  obtain ⟨op, n, N, A⟩ := m
  simp only at *
  go_enter Tryd.func14, Tryd.ntmps14
  go_upto_region 2 with fail
  rw [HW.out]
  clear g0 g1 g2 g3 HW
  rcases OPS with rfl | rfl | rfl | rfl | rfl | rfl | rfl
  · have E : Hid (leafEv q ⟨1, n, N, A⟩ = true) := hid rfl
    go_wp2_with fail
    go_ret
    exact ⟨by rw [E.out]; rfl, WW.out⟩
  · have E : Hid (leafEv q ⟨2, n, N, A⟩ = Nm.under q.N N) := hid rfl
    go_wp2_with fail
    refine (below_at (Nm.under q.N N) q.N N W1 QQ.out.1 SS.out rfl rfl rfl).mono ?_
    rintro e w2 ⟨rfl, d⟩
    have W2 := hid (WW.out.trans (d.below _))
    clear d
    go_wp2_with fail
    go_ret
    exact ⟨by rw [E.out]; rfl, W2.out⟩
  · have E : Hid (leafEv q ⟨3, n, N, A⟩ = (q.ty == n)) := hid rfl
    go_wp2_with fail
    go_ret
    exact ⟨by rw [E.out]; rfl, WW.out⟩
  · have E : Hid (leafEv q ⟨4, n, N, A⟩ = (q.cl == n)) := hid rfl
    go_wp2_with fail
    go_ret
    exact ⟨by rw [E.out]; rfl, WW.out⟩
  · have E : Hid (leafEv q ⟨5, n, N, A⟩ = (q.opc == n)) := hid rfl
    go_wp2_with fail
    go_ret
    exact ⟨by rw [E.out]; rfl, WW.out⟩
  · have E : Hid (leafEv q ⟨6, n, N, A⟩ = q.rd) := hid rfl
    go_wp2_with fail
    go_ret
    exact ⟨by rw [E.out]; rfl, WW.out⟩
  · obtain ⟨f0, f1, f2⟩ := F7.out rfl
    obtain ⟨v, hv⟩ : ∃ v : Nat, n = (v : Int) := ⟨n.toNat, by omega⟩
    subst hv
    have E : Hid (leafEv q ⟨7, (v : Int), N, A⟩ = (decide ((v : Int) ≤ 8 * (q.F.length : Int)) && decide (Al q.F A v))) := hid rfl
    have hfl := QQ.out.2.1.2.1
    by_cases h8 : (v : Int) ≤ 8 * (q.F.length : Int)
    · have E2 : Hid (leafEv q ⟨7, (v : Int), N, A⟩ = decide (Al q.F A v)) := hid (by rw [E.out, decide_eq_true h8, Bool.true_and])
      have AL := hid (alike_at (decide (Al q.F A v)) q.F A v W1 QQ.out.2.1 DD.out rfl rfl (by omega) (by omega) (by rw [decide_eq_true_iff]; rfl))
      clear E
      generalize decide (Al q.F A v) = av at *
      go_wp2_with fail
      refine AL.out.mono ?_
      rintro e w2 ⟨rfl, rfl⟩
      go_wp2_with fail
      go_ret
      exact ⟨by rw [E2.out]; rfl, WW.out⟩
    · have E2 : Hid (leafEv q ⟨7, (v : Int), N, A⟩ = false) := hid (by rw [E.out, decide_eq_false h8, Bool.false_and])
      clear E
      go_wp2_with fail
      go_ret
      exact ⟨by rw [E2.out]; rfl, WW.out⟩

theorem split_one (pre post : List Mt) (m : Mt) (u : T) : pre ++ flat (.one m u) ++ post = pre ++ flat u ++ (m :: post) := by simp [flat]

theorem split_b (pre post : List Mt) (m : Mt) (a b : T) : pre ++ flat (.two m a b) ++ post = (pre ++ flat a) ++ flat b ++ (m :: post) := by simp [flat]

theorem split_a (pre post : List Mt) (m : Mt) (a b : T) : pre ++ flat (.two m a b) ++ post = pre ++ flat a ++ (flat b ++ m :: post) := by simp [flat]

set_option maxHeartbeats 8000000 in
set_option maxRecDepth 100000 in
theorem held_at (q : Qy) (tr : T) : ∀ {x y z : Option Addr} {c l s t : Nat} (pre post : List Mt) (k : Nat) (v : Bool) (w : World), Mats w x c (pre ++ flat tr ++ post) → (pre ++ flat tr ++ post).length = l → QyIs w q y s z t → wf tr → (∀ m ∈ flat tr, matchE m = 0) → pre.length + (flat tr).length = k + 1 → ev q tr = v →
    Calls Tryd.prog 14 #[.slice x l c, .int .i64 (k : Int), .agg #[.slice y q.N.length s, .int .i64 q.ty, .int .i64 q.cl, .int .i64 q.opc, .bool q.rd, .slice z q.F.length t]] w fun e w' => e = .returned (.bool v) ∧ Below w.heap.size w w' := by
  induction tr with
  | leaf m =>
    intro x y z c l s t pre post k v w h hl hq hw hE hk hv
    subst hv
    obtain ⟨hkr, hget⟩ := at_last (f := []) (post := post) hk
    exact held_leaf q m k (pre ++ flat (.leaf m) ++ post) w h hl hq hw (hE m (by simp [flat])) hkr hget
  | one m u ih =>
    intro x y z c l s t pre post k v w h hl hq hw hE hk hv
    have hlen := h.2.1
    obtain ⟨hkr, hget⟩ := at_last (f := flat u) (post := post) hk
    have hlast : pre ++ (flat u ++ [m]) ++ post = pre ++ flat (.one m u) ++ post := rfl
    simp only [hlast] at hkr hget
    have ho := one_op hw.1
    subst hl
    obtain ⟨b, off, rfl, hb, y1, s1, z1, t1, k0, k1, k2, k3, krest⟩ := h.here hkr
    clear krest
    rw [hget] at k0 k1 k2 k3
    have hkl : (k : Int) < ((pre ++ flat (.one m u) ++ post).length : Int) := by omega
    obtain ⟨B1, B2, B3⟩ := rlTwo 26 44 w #[.slice y q.N.length s, .int .i64 q.ty, .int .i64 q.cl, .int .i64 q.opc, .bool q.rd, .slice z q.F.length t] #[.int .i64 m.op, .int .i64 m.n, .slice y1 m.N.length s1, .slice z1 m.A.length t1]
    have hb1 := (Below.refl w.heap.size w).alloc (Nat.le_refl _) (.cells #[.slice y q.N.length s, .int .i64 q.ty, .int .i64 q.cl, .int .i64 q.opc, .bool q.rd, .slice z q.F.length t] 26)
    have g0 := (hb1.cell (p := ⟨b, off + k * 4, none⟩) hb).trans k0
    have g1 := (hb1.cell (p := ⟨b, off + k * 4 + 1, none⟩) hb).trans k1
    have g2 := (hb1.cell (p := ⟨b, off + k * 4 + 2, none⟩) hb).trans k2
    have g3 := (hb1.cell (p := ⟨b, off + k * 4 + 3, none⟩) hb).trans k3
    obtain ⟨W1, hW⟩ : ∃ W1, (w.alloc (.cells #[.slice y q.N.length s, .int .i64 q.ty, .int .i64 q.cl, .int .i64 q.opc, .bool q.rd, .slice z q.F.length t] 26)).alloc (.cells #[.int .i64 m.op, .int .i64 m.n, .slice y1 m.N.length s1, .slice z1 m.A.length t1] 44) = W1 := ⟨_, rfl⟩
    rw [hW] at B1 B2 B3
    have HW := hid hW
    have WW := hid B3
    have KQ := hid B1
    have KM := hid B2
    have hu := flat_pos u
    have hk2 : pre.length + (flat u).length = (k - 1) + 1 := by simp only [flat, List.length_append, List.length_singleton] at hk; omega
    have hkk : ((k : Int) - 1) = ((k - 1 : Nat) : Int) := by simp only [flat, List.length_append, List.length_singleton] at hk; omega
    have HI := hid (fun p (hp : ev q u = p) => ih (l := (pre ++ flat (.one m u) ++ post).length) pre (m :: post) (k - 1) p W1 (by rw [← split_one]; exact h.below B3) (by rw [← split_one]) (hq.below B3) hw.2 (fun e he => hE e (by simp [flat, he])) hk2 hp)
    obtain ⟨p, hp⟩ : ∃ p, ev q u = p := ⟨_, rfl⟩
    have HI2 := hid (HI.out p hp)
    have HV : Hid (v = !p) := hid (by rw [← hv, ev, hp])
    have HKK := hid hkk
    clear k0 k1 k2 k3 hq hb1 hget hkr B1 B2 B3 hW h hw hE hk hk2 hkk hp HI ih hv hlast
    rw [ho] at g0 HW KM
    generalize (pre ++ flat (.one m u) ++ post).length = l at *
    clear ho
    obtain ⟨op, n, N, A⟩ := m
    simp only at *
    obtain ⟨q0, q1, q2, q3, q4, q5⟩ := bl6 KQ.out
    obtain ⟨m0, m1, m2, m3⟩ := bl4 KM.out
    go_enter Tryd.func14, Tryd.ntmps14
    go_upto_region 2 with fail
    rw [HW.out]
    clear g0 g1 g2 g3 HW
    go_upto_region 16 with fail
    go_wp2_with fail
    rw [HKK.out]
    refine HI2.out.mono ?_
    rintro e w2 ⟨rfl, d⟩
    have M2 := hid (KM.out.below d)
    have W2 := hid (grown_on WW.out d)
    clear d q0 q1 q2 q3 q4 q5 m0 m1 m2 m3
    obtain ⟨m0, m1, m2, m3⟩ := bl4 M2.out
    go_wp2_with fail
    go_ret
    exact ⟨by rw [HV.out]; rfl, W2.out⟩
  | two m a bb iha ihb =>
    intro x y z c l s t pre post k v w h hl hq hw hE hk hv
    have hlen := h.2.1
    obtain ⟨hkr, hget⟩ := at_last (f := flat a ++ flat bb) (post := post) hk
    have hlast : pre ++ (flat a ++ flat bb ++ [m]) ++ post = pre ++ flat (.two m a bb) ++ post := rfl
    simp only [hlast] at hkr hget
    have ho := two_op hw.1
    subst hl
    obtain ⟨b, off, rfl, hb, y1, s1, z1, t1, k0, k1, k2, k3, krest⟩ := h.here hkr
    clear krest
    rw [hget] at k0 k1 k2 k3
    have hkl : (k : Int) < ((pre ++ flat (.two m a bb) ++ post).length : Int) := by omega
    obtain ⟨B1, B2, B3⟩ := rlTwo 26 44 w #[.slice y q.N.length s, .int .i64 q.ty, .int .i64 q.cl, .int .i64 q.opc, .bool q.rd, .slice z q.F.length t] #[.int .i64 m.op, .int .i64 m.n, .slice y1 m.N.length s1, .slice z1 m.A.length t1]
    have hb1 := (Below.refl w.heap.size w).alloc (Nat.le_refl _) (.cells #[.slice y q.N.length s, .int .i64 q.ty, .int .i64 q.cl, .int .i64 q.opc, .bool q.rd, .slice z q.F.length t] 26)
    have g0 := (hb1.cell (p := ⟨b, off + k * 4, none⟩) hb).trans k0
    have g1 := (hb1.cell (p := ⟨b, off + k * 4 + 1, none⟩) hb).trans k1
    have g2 := (hb1.cell (p := ⟨b, off + k * 4 + 2, none⟩) hb).trans k2
    have g3 := (hb1.cell (p := ⟨b, off + k * 4 + 3, none⟩) hb).trans k3
    obtain ⟨W1, hW⟩ : ∃ W1, (w.alloc (.cells #[.slice y q.N.length s, .int .i64 q.ty, .int .i64 q.cl, .int .i64 q.opc, .bool q.rd, .slice z q.F.length t] 26)).alloc (.cells #[.int .i64 m.op, .int .i64 m.n, .slice y1 m.N.length s1, .slice z1 m.A.length t1] 44) = W1 := ⟨_, rfl⟩
    rw [hW] at B1 B2 B3
    have HW := hid hW
    have WW := hid B3
    have KQ := hid B1
    have KM := hid B2
    have ha0 := flat_pos a
    have hb0 := flat_pos bb
    have hkf : pre.length + ((flat a).length + (flat bb).length + 1) = k + 1 := by simp only [flat, List.length_append, List.length_singleton] at hk; omega
    have hkk : ((k : Int) - 1) = ((k - 1 : Nat) : Int) := by omega
    have hka : (((pre ++ flat a).length : Nat) : Int) - 1 = ((pre.length + (flat a).length - 1 : Nat) : Int) := by rw [List.length_append]; omega
    obtain ⟨p, hp⟩ : ∃ p, ev q bb = p := ⟨_, rfl⟩
    obtain ⟨p2, hp2⟩ : ∃ p, ev q a = p := ⟨_, rfl⟩
    have IB := hid (ihb (l := (pre ++ flat (.two m a bb) ++ post).length) (pre ++ flat a) (m :: post) (k - 1) p W1 (by rw [← split_b]; exact h.below B3) (by rw [← split_b]) (hq.below B3) hw.2.2 (fun e he => hE e (by simp [flat, he])) (by rw [List.length_append]; omega) hp)
    have IA := hid (fun u (hu : Below W1.heap.size W1 u) => iha (l := (pre ++ flat (.two m a bb) ++ post).length) pre (flat bb ++ m :: post) (pre.length + (flat a).length - 1) p2 u (by rw [← split_a]; exact (h.below B3).below hu) (by rw [← split_a]) ((hq.below B3).below hu) hw.2.1 (fun e he => hE e (by simp [flat, he])) (by omega) hp2)
    have AH := hid (fun u (hu : Below W1.heap.size W1 u) => ahead_at (l := (pre ++ flat (.two m a bb) ++ post).length) (pre ++ flat a) (m :: post) bb (k - 1) u (by rw [← split_b]; exact (h.below B3).below hu) (by rw [← split_b]) hw.2.2 (by rw [List.length_append]; omega))
    have HV : Hid (v = if m.op = 9 then p2 && p else p2 || p) := hid (by rw [← hv, ev, hp, hp2])
    have HKK := hid hkk
    have HKA := hid hka
    have e1 : (0 : Int) ≤ (((pre ++ flat a).length : Nat) : Int) := by omega
    have e2 : (((pre ++ flat a).length : Nat) : Int) ≤ 4000000000000 := by rw [List.length_append]; have := hkr; omega
    clear k0 k1 k2 k3 hq hb1 hget hkr B1 B2 B3 hW h hw hE hk hkk hka hp hp2 iha ihb hv hlast ha0 hb0 hkf
    generalize (pre ++ flat (.two m a bb) ++ post).length = l at *
    generalize (pre ++ flat a).length = la at *
    generalize pre.length + (flat a).length - 1 = ka at *
    obtain ⟨op, n, N, A⟩ := m
    simp only at *
    have main : ∀ o : Int, op = o → (o = 9 ∨ o = 10) → (o = 9 → v = (p2 && p)) → (o = 10 → v = (p2 || p)) →
        Calls Tryd.prog 14 #[.slice (some ⟨b, off, none⟩) l c, .int .i64 (k : Int), .agg #[.slice y q.N.length s, .int .i64 q.ty, .int .i64 q.cl, .int .i64 q.opc, .bool q.rd, .slice z q.F.length t]] w fun e w' => e = .returned (.bool v) ∧ Below w.heap.size w w' := by
      intro o hoo ho2 hv9 hv10
      subst hoo
      have V9 := hid hv9
      have V10 := hid hv10
      have hk1 : 1 ≤ k := by have := HKK.out; omega
      clear hv9 hv10 HV
      obtain ⟨q0, q1, q2, q3, q4, q5⟩ := bl6 KQ.out
      obtain ⟨m0, m1, m2, m3⟩ := bl4 KM.out
      have d2 : (op == 2) = false := by rcases ho with rfl | rfl <;> rfl
      have d3 : (op == 3) = false := by rcases ho with rfl | rfl <;> rfl
      have d4 : (op == 4) = false := by rcases ho with rfl | rfl <;> rfl
      have d5 : (op == 5) = false := by rcases ho with rfl | rfl <;> rfl
      have d6 : (op == 6) = false := by rcases ho with rfl | rfl <;> rfl
      have d7 : (op == 7) = false := by rcases ho with rfl | rfl <;> rfl
      have d1 : (op == 1) = false := by rcases ho with rfl | rfl <;> rfl
      have d8 : (op == 8) = false := by rcases ho with rfl | rfl <;> rfl
      have HO := hid ho
      clear ho ho2
      go_enter Tryd.func14, Tryd.ntmps14
      go_upto_region 2 with fail
      rw [HW.out]
      clear g0 g1 g2 g3 HW
      go_upto_region 16 with fail
      go_wp2_with fail
      rw [HKK.out]
      refine IB.out.mono ?_
      rintro e w2 ⟨rfl, d⟩
      have HD := hid d
      have M2 := hid (KM.out.below d)
      have Q2 := hid (KQ.out.below d)
      have W2 := hid (grown_on WW.out d)
      clear d q0 q1 q2 q3 q4 q5 m0 m1 m2 m3
      obtain ⟨m0, m1, m2, m3⟩ := bl4 M2.out
      go_upto_region 19 with fail
      clear m0 m1 m2 m3
      obtain ⟨x0, x1, x2, x3, x4, x5⟩ := bl6 Q2.out
      go_cut [9] from 83 to 101 (fun vv wx => vv = .bool p2 ∧ Below w2.heap.size w2 wx)
      case first =>
        have l0 : ∀ s' : Od w2, s'.val.cell? ⟨w.heap.size, 0, none⟩ = some (.slice y q.N.length s) := fun s' => (s'.keeps.cell (p := ⟨w.heap.size, 0, none⟩) Q2.out.lt).trans x0
        have l1 : ∀ s' : Od w2, s'.val.cell? ⟨w.heap.size, 1, none⟩ = some (.int .i64 q.ty) := fun s' => (s'.keeps.cell (p := ⟨w.heap.size, 1, none⟩) Q2.out.lt).trans x1
        have l2 : ∀ s' : Od w2, s'.val.cell? ⟨w.heap.size, 2, none⟩ = some (.int .i64 q.cl) := fun s' => (s'.keeps.cell (p := ⟨w.heap.size, 2, none⟩) Q2.out.lt).trans x2
        have l3 : ∀ s' : Od w2, s'.val.cell? ⟨w.heap.size, 3, none⟩ = some (.int .i64 q.opc) := fun s' => (s'.keeps.cell (p := ⟨w.heap.size, 3, none⟩) Q2.out.lt).trans x3
        have l4 : ∀ s' : Od w2, s'.val.cell? ⟨w.heap.size, 4, none⟩ = some (.bool q.rd) := fun s' => (s'.keeps.cell (p := ⟨w.heap.size, 4, none⟩) Q2.out.lt).trans x4
        have l5 : ∀ s' : Od w2, s'.val.cell? ⟨w.heap.size, 5, none⟩ = some (.slice z q.F.length t) := fun s' => (s'.keeps.cell (p := ⟨w.heap.size, 5, none⟩) Q2.out.lt).trans x5
        have hNe : Nonempty (Od w2) := ⟨⟨w2, Below.refl _ _⟩⟩
        clear x0 x1 x2 x3 x4 x5
        refine wp_region_pt (.qs [0, 1, 2, 3, 6] (.one 4 (.qs [5] (.one 7 (.one 8 .nil))))) (fun u => ∃ s' : Od w2, u = s'.val) (by kernel_rfl) (by kernel_rfl) ?_
        refine ptL_qs ⟨⟨w2.drew, (Below.refl _ _).drew⟩, rfl⟩ ?_
        change wpQuiet _ _ _ _ [_, _, _, _, _] _
        repeat (go_big_quiet_step (fail))
        refine wpQuiet_nil ?_
        have HB := (Below.refl w2.heap.size w2).drew
        refine stepL_at (by rfl) fun K Q' hK => ?_
        go_simp
        rw [HKK.out]
        refine (AH.out _ (HD.out.trans (HB.mono HD.out.size))).mono ?_
        rintro e u1 ⟨rfl, rfl⟩
        refine hK _ _ (fun _ => ⟨⟨_, HB⟩, rfl⟩) ?_
        clear hK
        refine ptL_qs ⟨⟨_, HB⟩, rfl⟩ ?_
        change wpQuiet _ _ _ _ [_] _
        repeat (go_big_quiet_step (fail))
        refine wpQuiet_nil ?_
        refine stepL_at (by rfl) fun K Q' hK => ?_
        go_simp
        rw [HKA.out]
        refine (IA.out _ (HD.out.trans (HB.mono HD.out.size))).mono ?_
        rintro e u2 ⟨rfl, d⟩
        replace HB := HB.trans (d.mono HB.size)
        refine hK _ _ (fun _ => ⟨⟨_, HB⟩, rfl⟩) ?_
        clear hK d
        refine stepL_at (by rfl) fun K Q' hK => ?_
        go_simp
        refine hK _ _ (fun _ => ⟨⟨_, HB⟩, rfl⟩) ?_
        clear hK
        refine ptL_nil ?_
        go_wp2
        go_meet
        exact ⟨rfl, HB⟩
      case rest =>
        obtain ⟨rfl, d⟩ := hcut
        have M3 := hid (M2.out.below d)
        have W3 := hid (grown_on W2.out d)
        clear d x0 x1 x2 x3 x4 x5 IA IB AH HKK HKA KQ KM HD Q2 M2 W2
        obtain ⟨m0, m1, m2, m3⟩ := bl4 M3.out
        by_cases h9 : op = 9
        · have E := hid (V9.out h9)
          have h9' : (op == 9) = true := by simpa using h9
          clear h9
          cases p2 with
          | true =>
            go_wp2_with fail
            go_ret
            exact ⟨by rw [E.out]; rfl, W3.out⟩
          | false =>
            go_wp2_with fail
            go_ret
            exact ⟨by rw [E.out]; rfl, W3.out⟩
        · have E := hid (V10.out (by have := HO.out; omega))
          have h9' : (op == 9) = false := by simpa using h9
          clear h9
          cases p2 with
          | true =>
            go_wp2_with fail
            go_ret
            exact ⟨by rw [E.out]; rfl, W3.out⟩
          | false =>
            go_wp2_with fail
            go_ret
            exact ⟨by rw [E.out]; rfl, W3.out⟩
    refine main op rfl ho (fun e => ?_) (fun e => ?_)
    · rw [HV.out, if_pos e]
    · rw [HV.out, if_neg (by omega)]

end Go.Proofs.YtnbabdfcamdapaaDoor.Ru

namespace Go.Proofs.YtnbabdfcamdapaaDoor.Ru
open Go.RowKit Go.Deep

set_option maxHeartbeats 2000000 in
set_option maxRecDepth 100000 in
theorem cfault_at {x : Option Addr} {c l : Nat} (a k : Int) (rs : List Ra) (w : World) (h : Ras w x c rs) (hl : rs.length = l) (hk : chainE rs = (a, k)) :
    Calls Tryd.prog 5 #[.slice x l c] w fun e w' => e = .returned (.tuple #[.int .i64 a, .int .i64 k]) ∧ Below w.heap.size w w' := by
  subst hl
  have hlen : rs.length ≤ 5000000000000 := h.2.1
  have HH := hid h
  have HK := hid hk
  clear h hk
  by_cases c1 : 50 < rs.length
  · have HE : Hid (((0 : Int), (7 : Int)) = (a, k)) := hid (by rw [← HK.out]; unfold chainE; rw [if_pos c1])
    have c1' : (50 : Int) < (rs.length : Int) := by omega
    go_enter Tryd.func5, Tryd.ntmps5
    go_wp2_with fail
    go_ret2
    have := HE.out
    simp only [Prod.mk.injEq] at this
    obtain ⟨rfl, rfl⟩ := this
    exact ⟨rfl, Below.refl _ _⟩
  have c1' : ¬ (50 : Int) < (rs.length : Int) := by omega
  have HE : Hid (Ch.wrong (faults rs) = (a, k)) := hid (by rw [← HK.out]; unfold chainE; rw [if_neg c1])
  clear HK
  go_enter Tryd.func5, Tryd.ntmps5
  go_wp2_with fail
  go_loopw [4] (fun vi wr => ∃ i : Nat, i ≤ rs.length ∧ vi = .int .i64 (i : Int) ∧ (∀ j, j < i → (faults rs)[j]? = some 0) ∧ Below w.heap.size w wr) (fun vi _ => rs.length - (intOf vi).toNat)
  case atStart => exact ⟨0, Nat.zero_le _, rfl, fun j hj => by omega, Below.refl _ _⟩
  case round =>
    obtain ⟨i, hi, rfl, hf, hb⟩ := hrel
    have FF := hid hf
    have BB := hid hb
    clear hf hb
    by_cases ci : i < rs.length
    · have ci' : (i : Int) < (rs.length : Int) := by omega
      obtain ⟨b, off, rfl, hbl, y, s, k0, k1, hM⟩ := (HH.out.below BB.out).here ci
      obtain ⟨e, he⟩ : ∃ e, ruleE rs[i].ms = e := ⟨_, rfl⟩
      have GE : Hid ((faults rs)[i]? = some e) := hid (by unfold faults; rw [List.getElem?_map, List.getElem?_eq_getElem ci]; simp only [Option.map_some, he])
      have C2 := hid (rfault_at e rs[i].ms wr hM rfl he)
      clear hM k1 he
      generalize rs[i].ms = ms at *
      by_cases h0 : e = 0
      · subst h0
        go_wp2_with fail
        refine C2.out.mono ?_
        rintro e w1 ⟨rfl, q⟩
        have B1 := hid (grown_on BB.out q)
        clear q k0
        go_wp2_with fail
        refine ⟨⟨i + 1, by omega, by go_num, fun j hj => ?_, B1.out⟩, by simp [intOf]; omega⟩
        by_cases hj' : j = i
        · subst hj'; exact GE.out
        · exact FF.out j (by omega)
      · have F5 : Hid (((i : Int), e) = (a, k)) := hid (by rw [← HE.out, Ch.wrong_get FF.out GE.out h0])
        go_wp2_with fail
        refine C2.out.mono ?_
        rintro e w1 ⟨rfl, q⟩
        have B1 := hid (grown_on BB.out q)
        clear q k0
        go_wp2_with fail
        go_ret2
        have := F5.out
        simp only [Prod.mk.injEq] at this
        obtain ⟨rfl, rfl⟩ := this
        exact ⟨rfl, B1.out⟩
    · have ci' : ¬ (i : Int) < (rs.length : Int) := by omega
      have F5 : Hid (((0 : Int), (0 : Int)) = (a, k)) := hid (by
        rw [← HE.out, Ch.wrong_zero]
        refine (Ch.wrong_none _).2 fun e he => ?_
        obtain ⟨j, hj⟩ := List.mem_iff_getElem?.1 he
        have hjl : j < (faults rs).length := (List.getElem?_eq_some_iff.1 hj).1
        have hjl' : j < rs.length := by unfold faults at hjl; rwa [List.length_map] at hjl
        have := FF.out j (by omega)
        rw [this] at hj
        exact (Option.some.inj hj).symm)
      go_wp2_with fail
      go_ret2
      have := F5.out
      simp only [Prod.mk.injEq] at this
      obtain ⟨rfl, rfl⟩ := this
      exact ⟨rfl, BB.out⟩

theorem held_row {x y z : Option Addr} {c l s t : Nat} (q : Qy) (ms : List Mt) (v : Bool) (w : World) (h : Mats w x c ms) (hl : ms.length = l) (hq : QyIs w q y s z t) (hE : ruleE ms = 0) (hv : holdN q ms = v) :
    Calls Tryd.prog 14 #[.slice x l c, .int .i64 ((l : Int) - 1), .agg #[.slice y q.N.length s, .int .i64 q.ty, .int .i64 q.cl, .int .i64 q.opc, .bool q.rd, .slice z q.F.length t]] w fun e w' => e = .returned (.bool v) ∧ Below w.heap.size w w' := by
  obtain ⟨tr, hf, hw⟩ := ruleE_tree hE
  subst hf
  rw [holdN_of hw] at hv
  have e : [] ++ flat tr ++ [] = flat tr := by simp
  have hp := flat_pos tr
  have e2 : ((l : Int) - 1) = ((l - 1 : Nat) : Int) := by omega
  rw [e2]
  exact held_at q tr [] [] (l - 1) v w (by rw [e]; exact h) (by rw [e]; exact hl) hq hw (ruleE_node hE) (by simp; omega) hv

set_option maxHeartbeats 2000000 in
set_option maxRecDepth 100000 in
theorem firstof_at {x y z : Option Addr} {c l s t : Nat} (v : Int) (rs : List Ra) (q : Qy) (w : World) (h : Ras w x c rs) (hl : rs.length = l) (hq : QyIs w q y s z t) (hE : ∀ r ∈ rs, ruleE r.ms = 0) (hv : Ch.first (holds q rs) = v) :
    Calls Tryd.prog 8 #[.slice x l c, .agg #[.slice y q.N.length s, .int .i64 q.ty, .int .i64 q.cl, .int .i64 q.opc, .bool q.rd, .slice z q.F.length t]] w fun e w' => e = .returned (.int .i64 v) ∧ Below w.heap.size w w' := by
  subst hl
  have hlen : rs.length ≤ 5000000000000 := h.2.1
  have B0 := (Below.refl w.heap.size w).alloc (Nat.le_refl _) (.cells #[.slice y q.N.length s, .int .i64 q.ty, .int .i64 q.cl, .int .i64 q.opc, .bool q.rd, .slice z q.F.length t] 26)
  have KQ := hid (Bl.new 26 w #[.slice y q.N.length s, .int .i64 q.ty, .int .i64 q.cl, .int .i64 q.opc, .bool q.rd, .slice z q.F.length t])
  have HH := hid h
  have QQ := hid hq
  have HV := hid hv
  have EE := hid hE
  have BB0 := hid B0
  clear h hq hv hE B0
  go_enter Tryd.func8, Tryd.ntmps8
  go_wp2_with fail
  generalize w.alloc (.cells #[.slice y q.N.length s, .int .i64 q.ty, .int .i64 q.cl, .int .i64 q.opc, .bool q.rd, .slice z q.F.length t] 26) = w0 at *
  go_loopw [5] (fun vi wr => ∃ i : Nat, i ≤ rs.length ∧ vi = .int .i64 (i : Int) ∧ (∀ j, j < i → (holds q rs)[j]? = some false) ∧ Below w.heap.size w wr ∧ Bl 26 wr w.heap.size #[.slice y q.N.length s, .int .i64 q.ty, .int .i64 q.cl, .int .i64 q.opc, .bool q.rd, .slice z q.F.length t]) (fun vi _ => rs.length - (intOf vi).toNat)
  case atStart => exact ⟨0, Nat.zero_le _, rfl, fun j hj => by omega, BB0.out, KQ.out⟩
  case round =>
    obtain ⟨i, hi, rfl, hf, hb, hk⟩ := hrel
    have FF := hid hf
    have BB := hid hb
    have KK := hid hk
    clear hf hb hk
    by_cases ci : i < rs.length
    · have ci' : (i : Int) < (rs.length : Int) := by omega
      obtain ⟨b, off, rfl, hbl, y', s', k0, k1, hM⟩ := (HH.out.below BB.out).here ci
      have hE0 := EE.out _ (List.getElem_mem ci)
      have hl2 : rs[i].ms.length ≤ 200 := ruleE_len hE0
      obtain ⟨o, ho⟩ : ∃ o, holdN q rs[i].ms = o := ⟨_, rfl⟩
      have GE : Hid ((holds q rs)[i]? = some o) := hid (by unfold holds; rw [List.getElem?_map, List.getElem?_eq_getElem ci]; simp only [Option.map_some, ho])
      have C2 := hid (fun (u : World) (hu : Below wr.heap.size wr u) => held_row q rs[i].ms o u (hM.below hu) rfl ((QQ.out.below BB.out).below hu) hE0 ho)
      clear hM k1 ho hE0
      have nW : IntKind.i64.wrap ((rs[i].ms.length : Int) - 1) = (rs[i].ms.length : Int) - 1 := Go.IntWalk.i64_in _ (by omega)
      replace nW := hid nW
      generalize rs[i].ms = ms at *
      obtain ⟨x0, x1, x2, x3, x4, x5⟩ := bl6 KK.out
      go_upto_region 4 with fail
      have l0 : ∀ s' : Od wr, s'.val.cell? ⟨w.heap.size, 0, none⟩ = some (.slice y q.N.length s) := fun s' => (s'.keeps.cell (p := ⟨w.heap.size, 0, none⟩) KK.out.lt).trans x0
      have l1 : ∀ s' : Od wr, s'.val.cell? ⟨w.heap.size, 1, none⟩ = some (.int .i64 q.ty) := fun s' => (s'.keeps.cell (p := ⟨w.heap.size, 1, none⟩) KK.out.lt).trans x1
      have l2 : ∀ s' : Od wr, s'.val.cell? ⟨w.heap.size, 2, none⟩ = some (.int .i64 q.cl) := fun s' => (s'.keeps.cell (p := ⟨w.heap.size, 2, none⟩) KK.out.lt).trans x2
      have l3 : ∀ s' : Od wr, s'.val.cell? ⟨w.heap.size, 3, none⟩ = some (.int .i64 q.opc) := fun s' => (s'.keeps.cell (p := ⟨w.heap.size, 3, none⟩) KK.out.lt).trans x3
      have l4 : ∀ s' : Od wr, s'.val.cell? ⟨w.heap.size, 4, none⟩ = some (.bool q.rd) := fun s' => (s'.keeps.cell (p := ⟨w.heap.size, 4, none⟩) KK.out.lt).trans x4
      have l5 : ∀ s' : Od wr, s'.val.cell? ⟨w.heap.size, 5, none⟩ = some (.slice z q.F.length t) := fun s' => (s'.keeps.cell (p := ⟨w.heap.size, 5, none⟩) KK.out.lt).trans x5
      have l6 : ∀ s'' : Od wr, s''.val.cell? ⟨b, off + i * 2, none⟩ = some (.slice y' ms.length s') := fun s'' => (s''.keeps.cell (p := ⟨b, off + i * 2, none⟩) hbl).trans k0
      have hNe : Nonempty (Od wr) := ⟨⟨wr, Below.refl _ _⟩⟩
      clear x0 x1 x2 x3 x4 x5 k0
      refine wp_region_pt (.qs [0, 1, 2, 3, 4, 5, 6, 7, 8, 9, 12] (.one 10 (.one 11 (.one 13 .nil)))) (fun u => ∃ s' : Od wr, u = s'.val) (by kernel_rfl) (by kernel_rfl) ?_
      refine ptL_qs ⟨⟨wr.drew, (Below.refl _ _).drew⟩, rfl⟩ ?_
      change wpQuiet _ _ _ _ [_, _, _, _, _, _, _, _, _, _, _] _
      repeat (go_big_quiet_step (fail))
      refine wpQuiet_nil ?_
      have HB := (Below.refl wr.heap.size wr).drew
      refine stepL_at (by rfl) fun K Q' hK => ?_
      go_simp
      refine hK _ _ (fun _ => ⟨⟨_, HB⟩, rfl⟩) ?_
      clear hK
      refine stepL_at (by rfl) fun K Q' hK => ?_
      go_simp
      refine hK _ _ (fun _ => ⟨⟨_, HB⟩, rfl⟩) ?_
      clear hK
      refine stepL_at (by rfl) fun K Q' hK => ?_
      go_simp
      rw [nW.out]
      refine (C2.out _ HB).mono ?_
      rintro e u1 ⟨rfl, d⟩
      replace HB := HB.trans (d.mono HB.size)
      refine hK _ _ (fun _ => ⟨⟨_, HB⟩, rfl⟩) ?_
      clear hK d
      refine ptL_nil ?_
      have B1 := hid (BB.out.trans (HB.mono BB.out.size))
      have K1 := hid (KK.out.below HB)
      clear HB l0 l1 l2 l3 l4 l5 l6 hNe C2
      cases o
      · go_wp2_with fail
        refine ⟨⟨i + 1, by omega, by go_num, fun j hj => ?_, B1.out, K1.out⟩, by simp [intOf]; omega⟩
        by_cases hj' : j = i
        · subst hj'; exact GE.out
        · exact FF.out j (by omega)
      · have F5 : Hid (v = (i : Int)) := hid (by rw [← HV.out]; exact (Ch.first_is _ _).2 ⟨GE.out, FF.out⟩)
        go_wp2_with fail
        go_ret
        exact ⟨by rw [F5.out]; rfl, B1.out⟩
    · have ci' : ¬ (i : Int) < (rs.length : Int) := by omega
      have F5 : Hid (v = -1) := hid (by
        rw [← HV.out]
        refine Ch.first_neg ((Ch.first_none _).2 fun o he => ?_)
        obtain ⟨j, hj⟩ := List.mem_iff_getElem?.1 he
        have hjl : j < (holds q rs).length := (List.getElem?_eq_some_iff.1 hj).1
        have hjl' : j < rs.length := by unfold holds at hjl; rwa [List.length_map] at hjl
        have := FF.out j (by omega)
        rw [this] at hj
        exact (Option.some.inj hj).symm)
      go_wp2_with fail
      go_ret
      exact ⟨by rw [F5.out]; rfl, BB.out⟩

end Go.Proofs.YtnbabdfcamdapaaDoor.Ru

namespace Go.Proofs.YtnbabdfcamdapaaDoor.Ru
open Go.RowKit Go.Deep

set_option maxHeartbeats 2000000 in
set_option maxRecDepth 100000 in
theorem chtell_walk {x y z : Option Addr} {c l s t : Nat} (rs : List Ra) (q : Qy) (other : Int) (w : World) (h : Ras w x c rs) (hl : rs.length = l) (hq : QyIs w q y s z t) (hg : Glob w) :
    Calls Tryd.prog 3 #[.slice x l c, .agg #[.slice y q.N.length s, .int .i64 q.ty, .int .i64 q.cl, .int .i64 q.opc, .bool q.rd, .slice z q.F.length t], .int .i64 other] w fun e w' => e = .returned (.bool true) ∧ Below w.heap.size w w' := by
  have B0 := (Below.refl w.heap.size w).alloc (Nat.le_refl _) (.cells #[.slice y q.N.length s, .int .i64 q.ty, .int .i64 q.cl, .int .i64 q.opc, .bool q.rd, .slice z q.F.length t] 26)
  have KQ := hid (Bl.new 26 w #[.slice y q.N.length s, .int .i64 q.ty, .int .i64 q.cl, .int .i64 q.opc, .bool q.rd, .slice z q.F.length t])
  have HH := hid (h.below B0)
  have QQ := hid (hq.below B0)
  have HG := hid (hg.below B0)
  have WW := hid B0
  have HL := hid hl
  have hlen : l ≤ 5000000000000 := by rw [← hl]; exact h.2.1
  clear B0 h hq hg hl
  obtain ⟨w0, hw0⟩ : ∃ w0, w.alloc (.cells #[.slice y q.N.length s, .int .i64 q.ty, .int .i64 q.cl, .int .i64 q.opc, .bool q.rd, .slice z q.F.length t] 26) = w0 := ⟨_, rfl⟩
  rw [hw0] at KQ HH QQ HG WW
  have HW := hid hw0
  clear hw0
  obtain ⟨a, k, hk⟩ : ∃ a k, chainE rs = (a, k) := ⟨_, _, rfl⟩
  have HK := hid hk
  have HK2 := hid (show (chainE rs).2 = k by rw [hk])
  obtain ⟨i, hi⟩ : ∃ i, chainR q rs = i := ⟨_, rfl⟩
  have HI := hid hi
  obtain ⟨d, hd⟩ : ∃ d, chainD q other rs = d := ⟨_, rfl⟩
  have HD := hid hd
  obtain ⟨v, hv⟩ : ∃ v, errV k = v := ⟨_, rfl⟩
  have HV := hid hv
  clear hk hi hd hv
  go_enter Tryd.func3, Tryd.ntmps3
  go_upto_region 1 with fail
  rw [HW.out]
  clear HW
  go_wp2_with fail
  refine (chained_any w0).mono ?_
  rintro e w1 ⟨rfl, b⟩
  replace KQ := hid (KQ.out.below b)
  replace HH := hid (HH.out.below b)
  replace QQ := hid (QQ.out.below b)
  replace HG := hid (HG.out.below b)
  replace WW := hid (grown_on WW.out b)
  clear b
  go_wp2_with fail
  refine (cfault_at a k rs w1 HH.out HL.out HK.out).mono ?_
  rintro e w2 ⟨rfl, b⟩
  replace KQ := hid (KQ.out.below b)
  replace HH := hid (HH.out.below b)
  replace QQ := hid (QQ.out.below b)
  replace HG := hid (HG.out.below b)
  replace WW := hid (grown_on WW.out b)
  clear b
  go_wp2_with fail
  refine (ccheck_any a k v rs w2 HH.out HL.out HK.out HV.out).mono ?_
  rintro e w3 ⟨rfl, b⟩
  replace KQ := hid (KQ.out.below b)
  replace HH := hid (HH.out.below b)
  replace QQ := hid (QQ.out.below b)
  replace HG := hid (HG.out.below b)
  replace WW := hid (grown_on WW.out b)
  clear b
  go_wp2_with fail
  refine (error_at k k v w3 HG.out HV.out rfl).mono ?_
  rintro e w4 ⟨rfl, b⟩
  replace KQ := hid (KQ.out.below b)
  replace HH := hid (HH.out.below b)
  replace QQ := hid (QQ.out.below b)
  replace HG := hid (HG.out.below b)
  replace WW := hid (grown_on WW.out b)
  clear b
  obtain ⟨c0, c1, c2, c3, c4, c5⟩ := bl6 KQ.out
  by_cases h0 : k = 0
  · subst h0
    have FE : Hid (∀ r ∈ rs, ruleE r.ms = 0) := hid (by
      have e := HK2.out
      unfold chainE at e
      split at e
      · simp at e
      · intro r hr
        exact (Ch.wrong_none _).1 e _ (List.mem_map.2 ⟨r, hr, rfl⟩))
    have FI : Hid (Ch.first (holds q rs) = i) := hid (by have e := HI.out; unfold chainR at e; rwa [if_pos HK2.out] at e)
    have FD : Hid (Ch.act other (rs.map fun r => (holdN q r.ms, r.act)) = d) := hid (by have e := HD.out; unfold chainD at e; rwa [if_pos HK2.out] at e)
    go_wp2_with fail
    refine (firstof_at i rs q w4 HH.out HL.out QQ.out FE.out FI.out).mono ?_
    rintro e w5 ⟨rfl, b⟩
    replace KQ := hid (KQ.out.below b)
    replace HH := hid (HH.out.below b)
    replace QQ := hid (QQ.out.below b)
    replace HG := hid (HG.out.below b)
    replace WW := hid (grown_on WW.out b)
    clear b
    clear c0 c1 c2 c3 c4 c5
    obtain ⟨c0, c1, c2, c3, c4, c5⟩ := bl6 KQ.out
    by_cases hi0 : 0 ≤ i
    · obtain ⟨j, rfl⟩ : ∃ j : Nat, i = (j : Int) := ⟨i.toNat, by omega⟩
      obtain ⟨hj, hact⟩ := acts_get FI.out FD.out
      have hj2 : (j : Int) < (l : Int) := by have := HL.out; omega
      obtain ⟨b, off, rfl, hbl, y2, s2, k0, k1, hM⟩ := HH.out.here hj
      rw [hact] at k1
      clear k0 hM hact hj
      go_wp2_with fail
      refine (cfirst_any (j : Int) 0 v rs q w5 HH.out HL.out QQ.out HK2.out HI.out HV.out).mono ?_
      rintro e w6 ⟨rfl, b⟩
      replace KQ := hid (KQ.out.below b)
      replace HH := hid (HH.out.below b)
      replace QQ := hid (QQ.out.below b)
      replace HG := hid (HG.out.below b)
      replace WW := hid (grown_on WW.out b)
      clear b
      go_wp2_with fail
      refine (error_at 0 0 v w6 HG.out HV.out rfl).mono ?_
      rintro e w7 ⟨rfl, b⟩
      replace KQ := hid (KQ.out.below b)
      replace HH := hid (HH.out.below b)
      replace QQ := hid (QQ.out.below b)
      replace HG := hid (HG.out.below b)
      replace WW := hid (grown_on WW.out b)
      clear b
      clear c0 c1 c2 c3 c4 c5
      obtain ⟨c0, c1, c2, c3, c4, c5⟩ := bl6 KQ.out
      go_wp2_with fail
      refine (cdo_any other d 0 v rs q w7 HH.out HL.out QQ.out HK2.out HD.out HV.out).mono ?_
      rintro e w8 ⟨rfl, b⟩
      replace KQ := hid (KQ.out.below b)
      replace HH := hid (HH.out.below b)
      replace QQ := hid (QQ.out.below b)
      replace HG := hid (HG.out.below b)
      replace WW := hid (grown_on WW.out b)
      clear b
      go_wp2_with fail
      refine (error_at 0 0 v w8 HG.out HV.out rfl).mono ?_
      rintro e w9 ⟨rfl, b⟩
      replace KQ := hid (KQ.out.below b)
      replace HH := hid (HH.out.below b)
      replace QQ := hid (QQ.out.below b)
      replace HG := hid (HG.out.below b)
      replace WW := hid (grown_on WW.out b)
      clear b
      go_wp2_with fail
      go_ret
      exact ⟨by first | rfl | simp, WW.out⟩
    · have HD2 : Hid (chainD q other rs = other) := hid (by rw [HD.out, ← FD.out]; exact acts_none (by rw [FI.out]; omega))
      go_wp2_with fail
      refine (cfirst_any i 0 v rs q w5 HH.out HL.out QQ.out HK2.out HI.out HV.out).mono ?_
      rintro e w6 ⟨rfl, b⟩
      replace KQ := hid (KQ.out.below b)
      replace HH := hid (HH.out.below b)
      replace QQ := hid (QQ.out.below b)
      replace HG := hid (HG.out.below b)
      replace WW := hid (grown_on WW.out b)
      clear b
      go_wp2_with fail
      refine (error_at 0 0 v w6 HG.out HV.out rfl).mono ?_
      rintro e w7 ⟨rfl, b⟩
      replace KQ := hid (KQ.out.below b)
      replace HH := hid (HH.out.below b)
      replace QQ := hid (QQ.out.below b)
      replace HG := hid (HG.out.below b)
      replace WW := hid (grown_on WW.out b)
      clear b
      clear c0 c1 c2 c3 c4 c5
      obtain ⟨c0, c1, c2, c3, c4, c5⟩ := bl6 KQ.out
      go_wp2_with fail
      refine (cdo_any other other 0 v rs q w7 HH.out HL.out QQ.out HK2.out HD2.out HV.out).mono ?_
      rintro e w8 ⟨rfl, b⟩
      replace KQ := hid (KQ.out.below b)
      replace HH := hid (HH.out.below b)
      replace QQ := hid (QQ.out.below b)
      replace HG := hid (HG.out.below b)
      replace WW := hid (grown_on WW.out b)
      clear b
      go_wp2_with fail
      refine (error_at 0 0 v w8 HG.out HV.out rfl).mono ?_
      rintro e w9 ⟨rfl, b⟩
      replace KQ := hid (KQ.out.below b)
      replace HH := hid (HH.out.below b)
      replace QQ := hid (QQ.out.below b)
      replace HG := hid (HG.out.below b)
      replace WW := hid (grown_on WW.out b)
      clear b
      go_wp2_with fail
      go_ret
      exact ⟨by first | rfl | simp, WW.out⟩
  · have HI2 : Hid (chainR q rs = 0) := hid (by unfold chainR; rw [if_neg (by rw [HK2.out]; exact h0)])
    have HD2 : Hid (chainD q other rs = 0) := hid (by unfold chainD; rw [if_neg (by rw [HK2.out]; exact h0)])
    go_wp2_with fail
    refine (cfirst_any 0 k v rs q w4 HH.out HL.out QQ.out HK2.out HI2.out HV.out).mono ?_
    rintro e w5 ⟨rfl, b⟩
    replace KQ := hid (KQ.out.below b)
    replace HH := hid (HH.out.below b)
    replace QQ := hid (QQ.out.below b)
    replace HG := hid (HG.out.below b)
    replace WW := hid (grown_on WW.out b)
    clear b
    go_wp2_with fail
    refine (error_at k k v w5 HG.out HV.out rfl).mono ?_
    rintro e w6 ⟨rfl, b⟩
    replace KQ := hid (KQ.out.below b)
    replace HH := hid (HH.out.below b)
    replace QQ := hid (QQ.out.below b)
    replace HG := hid (HG.out.below b)
    replace WW := hid (grown_on WW.out b)
    clear b
    clear c0 c1 c2 c3 c4 c5
    obtain ⟨c0, c1, c2, c3, c4, c5⟩ := bl6 KQ.out
    go_wp2_with fail
    refine (cdo_any other 0 k v rs q w6 HH.out HL.out QQ.out HK2.out HD2.out HV.out).mono ?_
    rintro e w7 ⟨rfl, b⟩
    replace KQ := hid (KQ.out.below b)
    replace HH := hid (HH.out.below b)
    replace QQ := hid (QQ.out.below b)
    replace HG := hid (HG.out.below b)
    replace WW := hid (grown_on WW.out b)
    clear b
    go_wp2_with fail
    refine (error_at k k v w7 HG.out HV.out rfl).mono ?_
    rintro e w8 ⟨rfl, b⟩
    replace KQ := hid (KQ.out.below b)
    replace HH := hid (HH.out.below b)
    replace QQ := hid (QQ.out.below b)
    replace HG := hid (HG.out.below b)
    replace WW := hid (grown_on WW.out b)
    clear b
    go_wp2_with fail
    go_ret
    exact ⟨by first | rfl | simp, WW.out⟩

end Go.Proofs.YtnbabdfcamdapaaDoor.Ru

namespace Go.Proofs.YtnbabdfcamdapaaDoor
open Go.ChangeShapes Go.WideShapes Go.ChangeAt Go.RowKit Go.Deep

theorem Laid.et : Tryd.prog.globalNamed "errors.errorType" = some 0 := by kernel_rfl
theorem Laid.rt : (Tryd.prog.cutTypes.find? (·.1 == "internal/reflectlite.rtype")).map (·.2) = some 87 := by kernel_rfl
theorem Laid.oneRow : ((List.range 136).filter fun t => Tryd.prog.rowNamed t [101, 114, 114, 111, 114]) = [32] := by kernel_rfl
theorem Laid.size : Tryd.prog.types.size = 136 := by kernel_rfl

theorem glob_of_laid {W : World} (h : laidMetH Tryd.prog [("errors.errorType", Rows.laid_errors_errorType)] W) : Glob W := by
  have h' : laidMet Tryd.prog [] W ∧ handlesMet Tryd.prog [("errors.errorType", Rows.laid_errors_errorType)] W := h
  obtain ⟨name, u, ty, e1, e2, e3, e4, e5⟩ := h'.2 _ (List.mem_singleton.2 rfl)
  have en : name = [101, 114, 114, 111, 114] := (Option.some.inj e1).symm
  subst en
  obtain rfl := Option.some.inj (Laid.rt.symm.trans e2)
  have hm : ty ∈ (List.range 136).filter fun t => Tryd.prog.rowNamed t [101, 114, 114, 111, 114] := List.mem_filter.2 ⟨List.mem_range.2 (by rw [← Laid.size]; exact e3), e4⟩
  rw [Laid.oneRow] at hm
  obtain rfl := List.mem_singleton.1 hm
  have hh : typeHandle Tryd.prog 32 = .pointer (some ⟨1, 32, none⟩) := by kernel_rfl
  rw [hh] at e5
  unfold Glob
  simpa using World.var?_cell Laid.et e5 0

theorem door_met (os : Os) (args : Array Value) : laidMetH Tryd.prog [("errors.errorType", Rows.laid_errors_errorType)] ((World.doorLaid Tryd.prog 400 os).forCall (fun _ _ => 0) ⟨#[], args, []⟩).memory :=
  laidMetH_of_parts3 (fuel := 8) (laidMet_of_run' 8 (by kernel_rfl) (by kernel_rfl)) (by kernel_rfl) (by kernel_rfl)

end Go.Proofs.YtnbabdfcamdapaaDoor

namespace Go.Proofs.YtnbabdfcamdapaaDoor
open Go.ChangeShapes Go.WideShapes Go.ChangeAt Go.RowKit Go.Deep

set_option maxRecDepth 100000 in
theorem chtells_lifted (os : Os) (started : os.Started) (H : Type) (enc : TypeId × Value → H) :
    ReturnsInHanded {} Tryd.checked os 3 .any (fun w args => (Rows.chainTellsSpec.pre enc Tryd.prog Tryd.f3 [] false w args ∧ laidMetH Tryd.prog [("errors.errorType", Rows.laid_errors_errorType)] w) ∧ sizedMet enc Tryd.prog Tryd.f3 (OpenSpec.ofChange Rows.chainTellsSpec) false w args)
      (Rows.chainTellsSpec.post enc Tryd.prog Tryd.f3 false true false false) := by
  refine returnsInHanded_of_change_and (C := Tryd.checked) (X := fun w _ => laidMetH Tryd.prog [("errors.errorType", Rows.laid_errors_errorType)] w) (fun _ _ _ hh h => h.of_heap hh) own started (by kernel_rfl) Tryd.func3
    (ChangeSpec.witness_shaped (enc := enc) (C := Tryd.checked) (os := os) (X := fun w _ => laidMetH Tryd.prog [("errors.errorType", Rows.laid_errors_errorType)] w) false (World.doorLaid Tryd.prog 400 os) #[.slice none 0 0, .agg #[.slice none 0 0, .int .i64 0, .int .i64 0, .int .i64 0, .bool false, .slice none 0 0], .int .i64 0] 8 rfl (World.shaped_of_RefB (by kernel_rfl) (by kernel_rfl)) (by kernel_rfl) (by kernel_rfl) (by kernel_rfl) (door_met os _)) ?_
  intro W base args ds gs before hval0 hW _ hsz0 hL _
  have hval : ∀ (j : Nat) t v, Tryd.f3.params[j]? = some t → args[j]? = some v → Value.okWide Tryd.prog W .any base t v := hval0
  have hsz : (DataW.weightsEach Tryd.prog (Tryd.f3.params.toList ++ Rows.chainTellsSpec.plain.varTypes Tryd.prog) (ds ++ gs)).all (· ≤ reachBytes) = true := hsz0
  have hW' := hW
  obtain ⟨p, q, hA0, hV, rfl, hfz, hnd⟩ := hW
  have hA : DataW.TrodAll enc Tryd.prog W 0 (fun _ => true) true Tryd.f3.params.toList args.toList ds p := hA0
  rw [Tryd.params3] at hA hval hsz
  obtain ⟨v0, vs0, d0, ds0, p0, q0, hargs, rfl, rfl, h0, r0⟩ := trodAll_cons hA
  obtain ⟨v1, vs1, d1, ds1, p1, q1, rfl, rfl, rfl, h1, r1⟩ := trodAll_cons r0
  obtain ⟨v2, vs2, d2, ds2, p2, q2, rfl, rfl, rfl, h2, r2⟩ := trodAll_cons r1
  obtain ⟨rfl, rfl, rfl⟩ := trodAll_nil r2
  obtain rfl : args = #[v0, v1, v2] := by cases args; simp_all
  obtain ⟨rfl, rfl⟩ := trodVars_none hV
  obtain ⟨x0, l0, c0, rfl⟩ := okWide_slice Tryd.underlying22 (hval 0 22 v0 rfl rfl)
  obtain ⟨cs1, rfl, _⟩ := okWide_struct Tryd.underlying26 (hval 1 26 v1 rfl rfl)
  have k0 := h0
  have k1 := h1
  have k2 := h2
  have lt0 : ∀ x ∈ p0, x.block < W.heap.size := by obtain ⟨m, hm⟩ := k0; exact DataW.trod_lt m _ _ _ hm
  have lt1 : ∀ x ∈ p1, x.block < W.heap.size := by obtain ⟨m, hm⟩ := k1; exact DataW.trod_lt m _ _ _ hm
  have lt2 : ∀ x ∈ p2, x.block < W.heap.size := by obtain ⟨m, hm⟩ := k2; exact DataW.trod_lt m _ _ _ hm
  obtain ⟨f0, g0⟩ := h0
  obtain ⟨a0, j0, s0, u0⟩ := Ru.rules_of g0 (fun n hn => by simpa using List.all_eq_true.1 hsz n (DataW.weights_mem_each (j := 0) (t := 22) rfl rfl n hn))
  obtain ⟨f1, g1⟩ := h1
  obtain ⟨yq1, zq1, sq1, tq1, qu1, hcs1, s1⟩ := Ru.query_of g1 (fun n hn => by simpa using List.all_eq_true.1 hsz n (DataW.weights_mem_each (j := 1) (t := 26) rfl rfl n hn))
  obtain ⟨csl1⟩ := cs1
  have hcs1' : csl1 = _ := hcs1
  subst hcs1'
  obtain ⟨z2, rfl, rfl, rfl, wz2⟩ := open_int Tryd.underlying3 (hval 2 3 v2 rfl rfl) h2
  have w2 := wf_i64 wz2
  have hg := glob_of_laid hL
  clear hA0 hval0 hsz0
  refine (Ru.chtell_walk a0 qu1 z2 W s0 j0 s1 hg).mono fun e W' ⟨he, bel⟩ => ?_
  subst he
  exact ⟨_, rfl, _, _, _, [], _, [], hW', trodAll_mk1 (shut_bool Tryd.underlying4 _), (trodAll_cons_mk (Below.trod laidOut (by kernel_rfl) (of_decide_eq_true (by kernel_rfl)) k0 bel lt0) (trodAll_cons_mk (Below.trod laidOut (by kernel_rfl) (of_decide_eq_true (by kernel_rfl)) k1 bel lt1) (trodAll_cons_mk (Below.trod laidOut (by kernel_rfl) (of_decide_eq_true (by kernel_rfl)) k2 bel lt2) trodAll_mk0))), rfl, bel.frame _, fun h => by cases h⟩

theorem chtells_over : Rows.ChainTellsSaid :=
  OpenClaim.holds_of_wide 3 Tryd.f3 rfl rfl rfl rfl rfl rfl rfl ⟨rfl, rfl, rfl, rfl, rfl⟩ rfl rfl rfl rfl rfl (by kernel_rfl) Tryd.func3 (by kernel_rfl)
    (of_decide_eq_true (by kernel_rfl)) (by unfold Func.isWrapper; rw [if_neg (of_decide_eq_false (by kernel_rfl))]; exact ⟨rfl, rfl⟩)
    (fun os started H enc _ => chtells_lifted os started H enc)

theorem chtells_holds : Rows.ChainTellsCardSaid :=
  Claim7.holds_tied_plain_at .later [] [.handle] true Rows.chainTellsCard.stood.harness true
    chtells_over (fun _ h => by cases h) (by kernel_rfl) (fun _ h => by cases h) chainTells_row_tie rfl ⟨rfl, rfl⟩ (by kernel_rfl) rfl
    (fun f fn hf hfn => by
      obtain rfl : f = 3 := Option.some.inj ((show Tryd.prog.funcNamed "pointsman/pointsmanlaw3.ChainTells" = some 3 by kernel_rfl).symm.trans hf) |>.symm
      obtain rfl : fn = Tryd.f3 := (Option.some.inj (Tryd.func3.symm.trans hfn)).symm
      exact ⟨by kernel_rfl, fun j t ht => by
        rw [Tryd.params3] at ht
        have hm : t ∈ [22, 26, 3] := by simpa using Array.mem_of_getElem? ht
        have hall : ([22, 26, 3].all fun u => !Tryd.prog.wantsStandIn u) = true := by kernel_rfl
        exact (show Tryd.prog.wantsStandIn t = false by simpa using List.all_eq_true.1 hall t hm)⟩)
    (by kernel_rfl)
#print axioms chtells_holds
end Go.Proofs.YtnbabdfcamdapaaDoor
