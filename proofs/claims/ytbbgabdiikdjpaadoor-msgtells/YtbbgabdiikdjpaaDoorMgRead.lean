/-
  The walk of msg.Read: the message of bytes, in new memory; nothing that was there is written.
-/
import Derived.Test.YtbbgabdiikdjpaaDoorMgHead
import Derived.Deep.Cut
namespace Go.Proofs.YtbbgabdiikdjpaaDoor
open Go.RowKit Go.Deep

theorem pair_le {ms : List Int} (hb : ∀ b ∈ ms, 0 ≤ b ∧ b ≤ 255) (i : Nat) : pairN ms i ≤ 65535 := by
  have g0 := getD_byte hb i
  have g1 := getD_byte hb (i + 1)
  unfold pairN
  omega

theorem msgR_ok {ms : List Int} (hb : ∀ b ∈ ms, 0 ≤ b ∧ b ≤ 255) {qs : List Qn} {r1 r2 r3 : List Rn} (h : msgR ms = (0, qs, r1, r2, r3)) :
    12 ≤ ms.length ∧ ∃ a0 a1 a2, partsN (readQ ms) (pairN ms 4) 12 = (0, qs, a0) ∧ partsN (readR ms) (pairN ms 6) a0 = (0, r1, a1) ∧ partsN (readR ms) (pairN ms 8) a1 = (0, r2, a2) ∧ partsN (readR ms) (pairN ms 10) a2 = (0, r3, ms.length) ∧ a0 ≤ ms.length ∧ a1 ≤ ms.length ∧ a2 ≤ ms.length := by
  unfold msgR at h
  by_cases c0 : ms.length < 12
  · rw [if_pos c0] at h; simp at h
  rw [if_neg c0] at h
  obtain ⟨⟨k0, q, a0⟩, e0⟩ : ∃ s, partsN (readQ ms) (pairN ms 4) 12 = s := ⟨_, rfl⟩
  rw [e0] at h
  simp only at h
  by_cases z0 : k0 = 0
  case neg => rw [if_pos z0] at h; simp only [Prod.mk.injEq] at h; exact absurd h.1 z0
  rw [if_neg (by simp [z0])] at h
  obtain ⟨⟨k1, s1, a1⟩, e1⟩ : ∃ s, partsN (readR ms) (pairN ms 6) a0 = s := ⟨_, rfl⟩
  rw [e1] at h
  simp only at h
  by_cases z1 : k1 = 0
  case neg => rw [if_pos z1] at h; simp only [Prod.mk.injEq] at h; exact absurd h.1 z1
  rw [if_neg (by simp [z1])] at h
  obtain ⟨⟨k2, s2, a2⟩, e2⟩ : ∃ s, partsN (readR ms) (pairN ms 8) a1 = s := ⟨_, rfl⟩
  rw [e2] at h
  simp only at h
  by_cases z2 : k2 = 0
  case neg => rw [if_pos z2] at h; simp only [Prod.mk.injEq] at h; exact absurd h.1 z2
  rw [if_neg (by simp [z2])] at h
  obtain ⟨⟨k3, s3, a3⟩, e3⟩ : ∃ s, partsN (readR ms) (pairN ms 10) a2 = s := ⟨_, rfl⟩
  rw [e3] at h
  simp only at h
  by_cases z3 : k3 = 0
  case neg => rw [if_pos z3] at h; simp only [Prod.mk.injEq] at h; exact absurd h.1 z3
  rw [if_neg (by simp [z3])] at h
  by_cases c1 : a3 < ms.length
  · rw [if_pos c1] at h; simp at h
  rw [if_neg c1] at h
  simp only [Prod.mk.injEq, true_and] at h
  obtain ⟨rfl, rfl, rfl, rfl⟩ := h
  subst z0 z1 z2 z3
  have f0 := parts_end (readQ_step hb) (parts_ok e0).2 (by omega)
  have f1 := parts_end (readR_step hb) (parts_ok e1).2 f0.2
  have f2 := parts_end (readR_step hb) (parts_ok e2).2 f1.2
  have f3 := parts_end (readR_step hb) (parts_ok e3).2 f2.2
  have e : a3 = ms.length := by omega
  rw [e] at e3
  exact ⟨by omega, a0, a1, a2, e0, e1, e2, e3, f0.2, f1.2, f2.2⟩

def MsgAt (h : Hd) (qs : List Qn) (r1 r2 r3 : List Rn) (w : World) (e : Ending) (w' : World) : Prop :=
  ∃ xq cq x1 c1 x2 c2 x3 c3, e = .returned (.tuple #[.agg #[.int .i64 h.id, .bool h.an, .int .i64 h.op, .bool h.aa, .bool h.tc, .bool h.rd, .bool h.ra, .bool h.z, .bool h.ad, .bool h.cd, .int .i64 h.code, .slice xq qs.length cq, .slice x1 r1.length c1, .slice x2 r2.length c2, .slice x3 r3.length c3], .nilIface]) ∧
    Qs w' w.heap.size xq cq qs ∧ Rs w' w.heap.size x1 c1 r1 ∧ Rs w' w.heap.size x2 c2 r2 ∧ Rs w' w.heap.size x3 c3 r3 ∧ Below w.heap.size w w'

/-- Behind some sections: the message in block M, the result's block, the sections. -/
def MSt (h : Hd) (w : World) (M : Nat) (qs : List Qn) (s1 s2 s3 : Option (List Rn)) (wr : World) : Prop :=
  ∃ xq cq v1 v2 v3, Bl 28 wr M #[.int .i64 h.id, .bool h.an, .int .i64 h.op, .bool h.aa, .bool h.tc, .bool h.rd, .bool h.ra, .bool h.z, .bool h.ad, .bool h.cd, .int .i64 h.code, .slice xq qs.length cq, v1, v2, v3] ∧ Qs wr (M + 1) xq cq qs ∧
    (∀ r, s1 = some r → ∃ x c, v1 = .slice x r.length c ∧ Rs wr (M + 1) x c r) ∧ (∀ r, s2 = some r → ∃ x c, v2 = .slice x r.length c ∧ Rs wr (M + 1) x c r) ∧ (∀ r, s3 = some r → ∃ x c, v3 = .slice x r.length c ∧ Rs wr (M + 1) x c r) ∧
    Bl 28 wr w.heap.size ms0 ∧ w.heap.size < M ∧ Below w.heap.size w wr

theorem MSt.below {h : Hd} {w : World} {M : Nat} {qs : List Qn} {s1 s2 s3 : Option (List Rn)} {wr w' : World} (k : MSt h w M qs s1 s2 s3 wr) (b : Below wr.heap.size wr w') : MSt h w M qs s1 s2 s3 w' := by
  obtain ⟨xq, cq, v1, v2, v3, k1, k2, k3, k4, k5, k6, k7, k8⟩ := k
  refine ⟨xq, cq, v1, v2, v3, k1.below b, k2.below b, ?_, ?_, ?_, k6.below b, k7, grown_on k8 b⟩
  · intro r e; obtain ⟨x, c, e1, e2⟩ := k3 r e; exact ⟨x, c, e1, e2.below b⟩
  · intro r e; obtain ⟨x, c, e1, e2⟩ := k4 r e; exact ⟨x, c, e1, e2.below b⟩
  · intro r e; obtain ⟨x, c, e1, e2⟩ := k5 r e; exact ⟨x, c, e1, e2.below b⟩

theorem sec_far {w : World} {M : Nat} {v : Value} {s : Option (List Rn)} (h : ∀ r, s = some r → ∃ x c, v = .slice x r.length c ∧ Rs w (M + 1) x c r) (i : Nat) (u : Value) : ∀ r, s = some r → ∃ x c, v = .slice x r.length c ∧ Rs (w.setCell ⟨M, i, none⟩ u) (M + 1) x c r := by
  intro r e
  obtain ⟨x, c, e1, e2⟩ := h r e
  exact ⟨x, c, e1, e2.far (Nat.lt_succ_self _) u⟩

theorem MSt.put1 {h : Hd} {w : World} {M : Nat} {qs : List Qn} {s2 s3 : Option (List Rn)} {s1 : Option (List Rn)} {wr : World} (k : MSt h w M qs s1 s2 s3 wr) {x : Option Addr} {c : Nat} {r : List Rn} (hr : Rs wr (M + 1) x c r) : MSt h w M qs (some r) s2 s3 (wr.setCell ⟨M, 12, none⟩ (.slice x r.length c)) := by
  obtain ⟨xq, cq, v1, v2, v3, k1, k2, k3, k4, k5, k6, k7, k8⟩ := k
  exact ⟨xq, cq, _, v2, v3, k1.set 12 _, k2.far (Nat.lt_succ_self _) _, fun r' e => ⟨x, c, by cases e; rfl, by cases e; exact hr.far (Nat.lt_succ_self _) _⟩, sec_far k4 _ _, sec_far k5 _ _, k6.far (by simp; omega) _, k7, k8.setCell (Nat.le_of_lt k7) _⟩

theorem MSt.put2 {h : Hd} {w : World} {M : Nat} {qs : List Qn} {s1 s2 s3 : Option (List Rn)} {wr : World} (k : MSt h w M qs s1 s2 s3 wr) {x : Option Addr} {c : Nat} {r : List Rn} (hr : Rs wr (M + 1) x c r) : MSt h w M qs s1 (some r) s3 (wr.setCell ⟨M, 13, none⟩ (.slice x r.length c)) := by
  obtain ⟨xq, cq, v1, v2, v3, k1, k2, k3, k4, k5, k6, k7, k8⟩ := k
  exact ⟨xq, cq, v1, _, v3, k1.set 13 _, k2.far (Nat.lt_succ_self _) _, sec_far k3 _ _, fun r' e => ⟨x, c, by cases e; rfl, by cases e; exact hr.far (Nat.lt_succ_self _) _⟩, sec_far k5 _ _, k6.far (by simp; omega) _, k7, k8.setCell (Nat.le_of_lt k7) _⟩

theorem MSt.put3 {h : Hd} {w : World} {M : Nat} {qs : List Qn} {s1 s2 s3 : Option (List Rn)} {wr : World} (k : MSt h w M qs s1 s2 s3 wr) {x : Option Addr} {c : Nat} {r : List Rn} (hr : Rs wr (M + 1) x c r) : MSt h w M qs s1 s2 (some r) (wr.setCell ⟨M, 14, none⟩ (.slice x r.length c)) := by
  obtain ⟨xq, cq, v1, v2, v3, k1, k2, k3, k4, k5, k6, k7, k8⟩ := k
  exact ⟨xq, cq, v1, v2, _, k1.set 14 _, k2.far (Nat.lt_succ_self _) _, sec_far k3 _ _, sec_far k4 _ _, fun r' e => ⟨x, c, by cases e; rfl, by cases e; exact hr.far (Nat.lt_succ_self _) _⟩, k6.far (by simp; omega) _, k7, k8.setCell (Nat.le_of_lt k7) _⟩

theorem MSt.cell {h : Hd} {w : World} {M : Nat} {qs : List Qn} {s1 s2 s3 : Option (List Rn)} {wr : World} (k : MSt h w M qs s1 s2 s3 wr) : (∃ v, wr.cell? ⟨M, 12, none⟩ = some v) ∧ (∃ v, wr.cell? ⟨M, 13, none⟩ = some v) ∧ (∃ v, wr.cell? ⟨M, 14, none⟩ = some v) ∧ wr.frozen? ⟨M, 12, none⟩ = false ∧ wr.frozen? ⟨M, 13, none⟩ = false ∧ wr.frozen? ⟨M, 14, none⟩ = false ∧ M < wr.heap.size := by
  obtain ⟨xq, cq, v1, v2, v3, k1, _⟩ := k
  exact ⟨⟨v1, k1.cell (i := 12) rfl⟩, ⟨v2, k1.cell (i := 13) rfl⟩, ⟨v3, k1.cell (i := 14) rfl⟩, k1.frozen _, k1.frozen _, k1.frozen _, k1.lt⟩

theorem MSt.bel {h : Hd} {w : World} {M : Nat} {qs : List Qn} {s1 s2 s3 : Option (List Rn)} {wr : World} (k : MSt h w M qs s1 s2 s3 wr) : Below w.heap.size w wr := by
  obtain ⟨_, _, _, _, _, _, _, _, _, _, _, _, k8⟩ := k
  exact k8

theorem MSt.res {h : Hd} {w : World} {M : Nat} {qs : List Qn} {s1 s2 s3 : Option (List Rn)} {wr : World} (k : MSt h w M qs s1 s2 s3 wr) : Bl 28 wr w.heap.size ms0 := by
  obtain ⟨_, _, _, _, _, _, _, _, _, _, k6, _, _⟩ := k
  exact k6

theorem far15q {w : World} {B : Nat} {x : Option Addr} {c : Nat} {qs : List Qn} (h : Qs w B x c qs) {b : Nat} (hb : b < B) (v0 v1 v2 v3 v4 v5 v6 v7 v8 v9 v10 v11 v12 v13 v14 : Value) : Qs (((((((((((((((w.setCell ⟨b, 0, none⟩ v0).setCell ⟨b, 1, none⟩ v1).setCell ⟨b, 2, none⟩ v2).setCell ⟨b, 3, none⟩ v3).setCell ⟨b, 4, none⟩ v4).setCell ⟨b, 5, none⟩ v5).setCell ⟨b, 6, none⟩ v6).setCell ⟨b, 7, none⟩ v7).setCell ⟨b, 8, none⟩ v8).setCell ⟨b, 9, none⟩ v9).setCell ⟨b, 10, none⟩ v10).setCell ⟨b, 11, none⟩ v11).setCell ⟨b, 12, none⟩ v12).setCell ⟨b, 13, none⟩ v13).setCell ⟨b, 14, none⟩ v14) B x c qs :=
  (((((((((((((((h.far (p := ⟨b, 0, none⟩) hb v0).far (p := ⟨b, 1, none⟩) hb v1).far (p := ⟨b, 2, none⟩) hb v2).far (p := ⟨b, 3, none⟩) hb v3).far (p := ⟨b, 4, none⟩) hb v4).far (p := ⟨b, 5, none⟩) hb v5).far (p := ⟨b, 6, none⟩) hb v6).far (p := ⟨b, 7, none⟩) hb v7).far (p := ⟨b, 8, none⟩) hb v8).far (p := ⟨b, 9, none⟩) hb v9).far (p := ⟨b, 10, none⟩) hb v10).far (p := ⟨b, 11, none⟩) hb v11).far (p := ⟨b, 12, none⟩) hb v12).far (p := ⟨b, 13, none⟩) hb v13).far (p := ⟨b, 14, none⟩) hb v14)

theorem far15r {w : World} {B : Nat} {x : Option Addr} {c : Nat} {rs : List Rn} (h : Rs w B x c rs) {b : Nat} (hb : b < B) (v0 v1 v2 v3 v4 v5 v6 v7 v8 v9 v10 v11 v12 v13 v14 : Value) : Rs (((((((((((((((w.setCell ⟨b, 0, none⟩ v0).setCell ⟨b, 1, none⟩ v1).setCell ⟨b, 2, none⟩ v2).setCell ⟨b, 3, none⟩ v3).setCell ⟨b, 4, none⟩ v4).setCell ⟨b, 5, none⟩ v5).setCell ⟨b, 6, none⟩ v6).setCell ⟨b, 7, none⟩ v7).setCell ⟨b, 8, none⟩ v8).setCell ⟨b, 9, none⟩ v9).setCell ⟨b, 10, none⟩ v10).setCell ⟨b, 11, none⟩ v11).setCell ⟨b, 12, none⟩ v12).setCell ⟨b, 13, none⟩ v13).setCell ⟨b, 14, none⟩ v14) B x c rs :=
  (((((((((((((((h.far (p := ⟨b, 0, none⟩) hb v0).far (p := ⟨b, 1, none⟩) hb v1).far (p := ⟨b, 2, none⟩) hb v2).far (p := ⟨b, 3, none⟩) hb v3).far (p := ⟨b, 4, none⟩) hb v4).far (p := ⟨b, 5, none⟩) hb v5).far (p := ⟨b, 6, none⟩) hb v6).far (p := ⟨b, 7, none⟩) hb v7).far (p := ⟨b, 8, none⟩) hb v8).far (p := ⟨b, 9, none⟩) hb v9).far (p := ⟨b, 10, none⟩) hb v10).far (p := ⟨b, 11, none⟩) hb v11).far (p := ⟨b, 12, none⟩) hb v12).far (p := ⟨b, 13, none⟩) hb v13).far (p := ⟨b, 14, none⟩) hb v14)

theorem msgR_q {ms : List Int} {k : Int} {qs : List Qn} {a0 : Nat} (h12 : 12 ≤ ms.length) (e0 : partsN (readQ ms) (pairN ms 4) 12 = (k, qs, a0)) (hk : ¬ k = 0) : msgR ms = (k, [], [], [], []) := by
  unfold msgR
  rw [if_neg (by omega), e0]
  simp only
  rw [if_pos hk]

theorem msgR_1 {ms : List Int} {k : Int} {qs : List Qn} {r1 : List Rn} {a0 a1 : Nat} (h12 : 12 ≤ ms.length) (e0 : partsN (readQ ms) (pairN ms 4) 12 = (0, qs, a0)) (e1 : partsN (readR ms) (pairN ms 6) a0 = (k, r1, a1)) (hk : ¬ k = 0) : msgR ms = (k, [], [], [], []) := by
  unfold msgR
  rw [if_neg (by omega), e0]
  simp only
  rw [if_neg (by simp), e1]
  simp only
  rw [if_pos hk]

theorem msgR_2 {ms : List Int} {k : Int} {qs : List Qn} {r1 r2 : List Rn} {a0 a1 a2 : Nat} (h12 : 12 ≤ ms.length) (e0 : partsN (readQ ms) (pairN ms 4) 12 = (0, qs, a0)) (e1 : partsN (readR ms) (pairN ms 6) a0 = (0, r1, a1)) (e2 : partsN (readR ms) (pairN ms 8) a1 = (k, r2, a2)) (hk : ¬ k = 0) : msgR ms = (k, [], [], [], []) := by
  unfold msgR
  rw [if_neg (by omega), e0]
  simp only
  rw [if_neg (by simp), e1]
  simp only
  rw [if_neg (by simp), e2]
  simp only
  rw [if_pos hk]

theorem msgR_3 {ms : List Int} {k : Int} {qs : List Qn} {r1 r2 r3 : List Rn} {a0 a1 a2 a3 : Nat} (h12 : 12 ≤ ms.length) (e0 : partsN (readQ ms) (pairN ms 4) 12 = (0, qs, a0)) (e1 : partsN (readR ms) (pairN ms 6) a0 = (0, r1, a1)) (e2 : partsN (readR ms) (pairN ms 8) a1 = (0, r2, a2)) (e3 : partsN (readR ms) (pairN ms 10) a2 = (k, r3, a3)) (hk : ¬ k = 0) : msgR ms = (k, [], [], [], []) := by
  unfold msgR
  rw [if_neg (by omega), e0]
  simp only
  rw [if_neg (by simp), e1]
  simp only
  rw [if_neg (by simp), e2]
  simp only
  rw [if_neg (by simp), e3]
  simp only
  rw [if_pos hk]

theorem msgR_4 {ms : List Int} {qs : List Qn} {r1 r2 r3 : List Rn} {a0 a1 a2 a3 : Nat} (h12 : 12 ≤ ms.length) (e0 : partsN (readQ ms) (pairN ms 4) 12 = (0, qs, a0)) (e1 : partsN (readR ms) (pairN ms 6) a0 = (0, r1, a1)) (e2 : partsN (readR ms) (pairN ms 8) a1 = (0, r2, a2)) (e3 : partsN (readR ms) (pairN ms 10) a2 = (0, r3, a3)) : msgR ms = if a3 < ms.length then (8, [], [], [], []) else (0, qs, r1, r2, r3) := by
  unfold msgR
  rw [if_neg (by omega), e0]
  simp only
  rw [if_neg (by simp), e1]
  simp only
  rw [if_neg (by simp), e2]
  simp only
  rw [if_neg (by simp), e3]
  simp only
  rw [if_neg (by simp)]

theorem msgR_short {ms : List Int} (h : ms.length < 12) : msgR ms = (2, [], [], [], []) := by
  unfold msgR
  rw [if_pos h]

/-- What msg.Read hands back: the message, or what is wrong and a message without anything. -/
def MsgPost (ms : List Int) (w : World) (e : Ending) (w' : World) : Prop :=
  (∃ qs r1 r2 r3, msgR ms = (0, qs, r1, r2, r3) ∧ MsgAt (hdR ms) qs r1 r2 r3 w e w') ∨
    (∃ k, ¬ k = 0 ∧ msgR ms = (k, [], [], [], []) ∧ e = .returned (.tuple #[.agg #[.int .i64 0, .bool false, .int .i64 0, .bool false, .bool false, .bool false, .bool false, .bool false, .bool false, .bool false, .int .i64 0, .slice none 0 0, .slice none 0 0, .slice none 0 0, .slice none 0 0], .iface 29 (.int .i64 k)]) ∧ Below w.heap.size w w')

/-- The rounds of the loop over the sections. -/
def MRel (h : Hd) (w : World) (M : Nat) (qs : List Qn) (r1 r2 r3 : List Rn) (k1 k2 k3 : Int) (a0 a1 a2 a3 : Nat) (va vi : Value) (wr : World) : Prop :=
  (va = .int .i64 (a0 : Int) ∧ vi = .int .i64 0 ∧ MSt h w M qs none none none wr) ∨ (k1 = 0 ∧ va = .int .i64 (a1 : Int) ∧ vi = .int .i64 1 ∧ MSt h w M qs (some r1) none none wr) ∨
    (k1 = 0 ∧ k2 = 0 ∧ va = .int .i64 (a2 : Int) ∧ vi = .int .i64 2 ∧ MSt h w M qs (some r1) (some r2) none wr) ∨ (k1 = 0 ∧ k2 = 0 ∧ k3 = 0 ∧ va = .int .i64 (a3 : Int) ∧ vi = .int .i64 3 ∧ MSt h w M qs (some r1) (some r2) (some r3) wr)

set_option maxHeartbeats 1000000 in
set_option maxRecDepth 100000 in
theorem mread_short {x : Option Addr} {c l : Nat} (ms : List Int) (w : World) (hl : ms.length = l) (h12 : ms.length < 12) :
    Calls Tryd.prog 6 #[.slice x l c] w (MsgPost ms w) := by
  subst hl
  have i1 : (ms.length : Int) < 12 := by omega
  have K0 := Bl.new 28 w ms0
  have B0 : Below w.heap.size w (w.alloc (.cells ms0 28)) := (Below.refl _ w).alloc (Nat.le_refl _) _
  go_enter Tryd.func6, Tryd.ntmps6
  go_wp2_with fail
  refine bodyPost_ret (results_mread _ _ w.heap.size _ _ _ _ _ _ _ _ _ _ _ _ _ _ _ rfl K0) rfl ?_
  exact Or.inr ⟨2, by decide, msgR_short h12, rfl, B0⟩

set_option maxHeartbeats 4000000 in
set_option maxRecDepth 100000 in
theorem mread_any {x : Option Addr} {c l : Nat} (ms : List Int) (w : World) (hs : Bys w x c ms) (hl : ms.length = l) :
    Calls Tryd.prog 6 #[.slice x l c] w (MsgPost ms w) := by
  by_cases h12 : ms.length < 12
  · exact mread_short ms w hl h12
  subst hl
  have h12' : 12 ≤ ms.length := by omega
  have hlen : ms.length ≤ 200000000000000 := hs.2.1
  have hbs := hs.2.2.1
  obtain ⟨⟨k0, qs, a0⟩, e0⟩ : ∃ s, partsN (readQ ms) (pairN ms 4) 12 = s := ⟨_, rfl⟩
  obtain ⟨⟨k1, r1, a1⟩, e1⟩ : ∃ s, partsN (readR ms) (pairN ms 6) a0 = s := ⟨_, rfl⟩
  obtain ⟨⟨k2, r2, a2⟩, e2⟩ : ∃ s, partsN (readR ms) (pairN ms 8) a1 = s := ⟨_, rfl⟩
  obtain ⟨⟨k3, r3, a3⟩, e3⟩ : ∃ s, partsN (readR ms) (pairN ms 10) a2 = s := ⟨_, rfl⟩
  obtain ⟨h, hh⟩ : ∃ h, hdR ms = h := ⟨_, rfl⟩
  have p0 := pair_le hbs 4
  have p1 := pair_le hbs 6
  have p2 := pair_le hbs 8
  have p3 := pair_le hbs 10
  have E0 := hid e0
  have E1 := hid e1
  have E2 := hid e2
  have E3 := hid e3
  have HH := hid hh
  have F0 : Hid (k0 = 0 → a0 ≤ ms.length) := hid (fun z => by subst z; exact (parts_end (readQ_step hbs) (parts_ok e0).2 h12').2)
  have F1 : Hid (k0 = 0 → k1 = 0 → a1 ≤ ms.length) := hid (fun z0 z1 => by subst z1; exact (parts_end (readR_step hbs) (parts_ok e1).2 (F0.out z0)).2)
  have F2 : Hid (k0 = 0 → k1 = 0 → k2 = 0 → a2 ≤ ms.length) := hid (fun z0 z1 z2 => by subst z2; exact (parts_end (readR_step hbs) (parts_ok e2).2 (F1.out z0 z1)).2)
  have F3 : Hid (k0 = 0 → k1 = 0 → k2 = 0 → k3 = 0 → a3 ≤ ms.length) := hid (fun z0 z1 z2 z3 => by subst z3; exact (parts_end (readR_step hbs) (parts_ok e3).2 (F2.out z0 z1 z2)).2)
  clear e0 e1 e2 e3 hh
  obtain ⟨n0, N0⟩ : ∃ n0, Hid (pairN ms 4 = n0) := ⟨_, hid rfl⟩
  obtain ⟨n1, N1⟩ : ∃ n1, Hid (pairN ms 6 = n1) := ⟨_, hid rfl⟩
  obtain ⟨n2, N2⟩ : ∃ n2, Hid (pairN ms 8 = n2) := ⟨_, hid rfl⟩
  obtain ⟨n3, N3⟩ : ∃ n3, Hid (pairN ms 10 = n3) := ⟨_, hid rfl⟩
  rw [N0.out] at p0
  have C0 : Hid (pairN ms (4 + 2 * 0) = n0) := hid N0.out
  rw [N1.out] at p1
  have C1 : Hid (pairN ms (4 + 2 * 1) = n1) := hid N1.out
  rw [N2.out] at p2
  have C2 : Hid (pairN ms (4 + 2 * 2) = n2) := hid N2.out
  rw [N3.out] at p3
  have C3 : Hid (pairN ms (4 + 2 * 3) = n3) := hid N3.out
  have G0 : Hid (partsN (readQ ms) n0 12 = (k0, qs, a0)) := hid (by rw [← N0.out]; exact E0.out)
  have G1 : Hid (partsN (readR ms) n1 a0 = (k1, r1, a1)) := hid (by rw [← N1.out]; exact E1.out)
  have G2 : Hid (partsN (readR ms) n2 a1 = (k2, r2, a2)) := hid (by rw [← N2.out]; exact E2.out)
  have G3 : Hid (partsN (readR ms) n3 a2 = (k3, r3, a3)) := hid (by rw [← N3.out]; exact E3.out)
  have i1 : ¬ (ms.length : Int) < 12 := by omega
  go_enter Tryd.func6, Tryd.ntmps6
  go_wp2_with fail
  have B0 : Below w.heap.size w _ := (Below.refl _ w).alloc (Nat.le_refl _) (.cells ms0 28)
  have K0 := Bl.new 28 w ms0
  refine (hread_hd h ms _ (hs.below B0) rfl (by omega) HH.out).mono ?_
  rintro e w1 ⟨rfl, b1⟩
  have B1 := hid (grown_on B0 b1)
  have K1 := hid (K0.below b1)
  have hw1 : w.heap.size < w1.heap.size := K1.out.lt
  clear B0 K0 b1
  go_wp2_with fail
  have BA : Below w1.heap.size w1 ((w1.alloc (.cells #[.int .i64 h.id, .bool h.an, .int .i64 h.op, .bool h.aa, .bool h.tc, .bool h.rd, .bool h.ra, .bool h.z, .bool h.ad, .bool h.cd, .int .i64 h.code] 24)).alloc (.cells #[.int .i64 h.id, .bool h.an, .int .i64 h.op, .bool h.aa, .bool h.tc, .bool h.rd, .bool h.ra, .bool h.z, .bool h.ad, .bool h.cd, .int .i64 h.code, .slice none 0 0, .slice none 0 0, .slice none 0 0, .slice none 0 0] 28)) := ((Below.refl _ w1).alloc (Nat.le_refl _) _).alloc (by simp) _
  have KM : Bl 28 ((w1.alloc (.cells #[.int .i64 h.id, .bool h.an, .int .i64 h.op, .bool h.aa, .bool h.tc, .bool h.rd, .bool h.ra, .bool h.z, .bool h.ad, .bool h.cd, .int .i64 h.code] 24)).alloc (.cells #[.int .i64 h.id, .bool h.an, .int .i64 h.op, .bool h.aa, .bool h.tc, .bool h.rd, .bool h.ra, .bool h.z, .bool h.ad, .bool h.cd, .int .i64 h.code, .slice none 0 0, .slice none 0 0, .slice none 0 0, .slice none 0 0] 28)) (w1.heap.size + 1) #[.int .i64 h.id, .bool h.an, .int .i64 h.op, .bool h.aa, .bool h.tc, .bool h.rd, .bool h.ra, .bool h.z, .bool h.ad, .bool h.cd, .int .i64 h.code, .slice none 0 0, .slice none 0 0, .slice none 0 0, .slice none 0 0] := by
    have k := Bl.new 28 (w1.alloc (.cells #[.int .i64 h.id, .bool h.an, .int .i64 h.op, .bool h.aa, .bool h.tc, .bool h.rd, .bool h.ra, .bool h.z, .bool h.ad, .bool h.cd, .int .i64 h.code] 24)) #[.int .i64 h.id, .bool h.an, .int .i64 h.op, .bool h.aa, .bool h.tc, .bool h.rd, .bool h.ra, .bool h.z, .bool h.ad, .bool h.cd, .int .i64 h.code, .slice none 0 0, .slice none 0 0, .slice none 0 0, .slice none 0 0]
    have e : (w1.alloc (.cells #[.int .i64 h.id, .bool h.an, .int .i64 h.op, .bool h.aa, .bool h.tc, .bool h.rd, .bool h.ra, .bool h.z, .bool h.ad, .bool h.cd, .int .i64 h.code] 24)).heap.size = w1.heap.size + 1 := by simp
    rw [e] at k
    exact k
  have B2 := hid (grown_on B1.out BA)
  have K2 := hid (K1.out.below BA)
  clear BA B1 K1
  obtain ⟨M, hM⟩ : ∃ M, w1.heap.size + 1 = M := ⟨_, rfl⟩
  rw [hM] at KM
  rw [hM]
  have hM1 : w.heap.size < M := by omega
  generalize (w1.alloc (.cells #[.int .i64 h.id, .bool h.an, .int .i64 h.op, .bool h.aa, .bool h.tc, .bool h.rd, .bool h.ra, .bool h.z, .bool h.ad, .bool h.cd, .int .i64 h.code] 24)).alloc (.cells #[.int .i64 h.id, .bool h.an, .int .i64 h.op, .bool h.aa, .bool h.tc, .bool h.rd, .bool h.ra, .bool h.z, .bool h.ad, .bool h.cd, .int .i64 h.code, .slice none 0 0, .slice none 0 0, .slice none 0 0, .slice none 0 0] 28) = W at *
  have KM2 := hid KM
  have hMW : M < W.heap.size := KM.lt
  clear KM hM hw1
  refine (count_at n0 0 ms _ (hs.below B2.out) rfl (by decide) h12' C0.out).mono ?_
  rintro e _ ⟨rfl, rfl⟩
  go_wp2_with fail
  refine (parts_q k0 qs a0 ms 12 n0 _ (hs.below B2.out) rfl h12' p0 G0.out).mono ?_
  rintro e W2 ⟨xq, cq, rfl, hq, b2⟩
  have B3 := grown_on B2.out b2
  have K3 := K2.out.below b2
  have M3 := KM2.out.below b2
  have Q3 := hid (hq.base (B' := M + 1) hMW)
  clear b2 B2 K2 KM2 hq
  by_cases z0 : k0 = 0
  case neg =>
    have X : Hid (msgR ms = (k0, [], [], [], [])) := hid (msgR_q h12' E0.out z0)
    rw [errV_some z0]
    have Z := hid z0
    clear M3 z0
    have yc0 : W2.cell? ⟨w.heap.size, 0, none⟩ = some (.int .i64 0) := K3.cell (i := 0) rfl
    have yf0 := K3.frozen 0
    have yc1 : W2.cell? ⟨w.heap.size, 1, none⟩ = some (.bool false) := K3.cell (i := 1) rfl
    have yf1 := K3.frozen 1
    have yc2 : W2.cell? ⟨w.heap.size, 2, none⟩ = some (.int .i64 0) := K3.cell (i := 2) rfl
    have yf2 := K3.frozen 2
    have yc3 : W2.cell? ⟨w.heap.size, 3, none⟩ = some (.bool false) := K3.cell (i := 3) rfl
    have yf3 := K3.frozen 3
    have yc4 : W2.cell? ⟨w.heap.size, 4, none⟩ = some (.bool false) := K3.cell (i := 4) rfl
    have yf4 := K3.frozen 4
    have yc5 : W2.cell? ⟨w.heap.size, 5, none⟩ = some (.bool false) := K3.cell (i := 5) rfl
    have yf5 := K3.frozen 5
    have yc6 : W2.cell? ⟨w.heap.size, 6, none⟩ = some (.bool false) := K3.cell (i := 6) rfl
    have yf6 := K3.frozen 6
    have yc7 : W2.cell? ⟨w.heap.size, 7, none⟩ = some (.bool false) := K3.cell (i := 7) rfl
    have yf7 := K3.frozen 7
    have yc8 : W2.cell? ⟨w.heap.size, 8, none⟩ = some (.bool false) := K3.cell (i := 8) rfl
    have yf8 := K3.frozen 8
    have yc9 : W2.cell? ⟨w.heap.size, 9, none⟩ = some (.bool false) := K3.cell (i := 9) rfl
    have yf9 := K3.frozen 9
    have yc10 : W2.cell? ⟨w.heap.size, 10, none⟩ = some (.int .i64 0) := K3.cell (i := 10) rfl
    have yf10 := K3.frozen 10
    have yc11 : W2.cell? ⟨w.heap.size, 11, none⟩ = some (.slice none 0 0) := K3.cell (i := 11) rfl
    have yf11 := K3.frozen 11
    have yc12 : W2.cell? ⟨w.heap.size, 12, none⟩ = some (.slice none 0 0) := K3.cell (i := 12) rfl
    have yf12 := K3.frozen 12
    have yc13 : W2.cell? ⟨w.heap.size, 13, none⟩ = some (.slice none 0 0) := K3.cell (i := 13) rfl
    have yf13 := K3.frozen 13
    have yc14 : W2.cell? ⟨w.heap.size, 14, none⟩ = some (.slice none 0 0) := K3.cell (i := 14) rfl
    have yf14 := K3.frozen 14
    have QR := hid K3
    have QB := hid B3
    clear K3 B3
    go_wp2_with fail
    refine bodyPost_ret (results_mread _ _ w.heap.size _ _ _ _ _ _ _ _ _ _ _ _ _ _ _ rfl (QR.out.put15 _ _ _ _ _ _ _ _ _ _ _ _ _ _ _)) rfl ?_
    exact Or.inr ⟨k0, Z.out, X.out, rfl, below_put15 QB.out (Nat.le_refl _) _ _ _ _ _ _ _ _ _ _ _ _ _ _ _⟩
  subst z0
  have a0l := F0.out rfl
  have F1b : Hid (k1 = 0 → a1 ≤ ms.length) := hid (F1.out rfl)
  have F2b : Hid (k1 = 0 → k2 = 0 → a2 ≤ ms.length) := hid (F2.out rfl)
  have F3b : Hid (k1 = 0 → k2 = 0 → k3 = 0 → a3 ≤ ms.length) := hid (F3.out rfl)
  clear F0 F1 F2 F3
  have m11 := M3.cell (i := 11) rfl
  have f11 := M3.frozen 11
  have KS : Hid (Bl 28 (W2.setCell ⟨M, 11, none⟩ (.slice xq qs.length cq)) M #[.int .i64 h.id, .bool h.an, .int .i64 h.op, .bool h.aa, .bool h.tc, .bool h.rd, .bool h.ra, .bool h.z, .bool h.ad, .bool h.cd, .int .i64 h.code, .slice xq qs.length cq, .slice none 0 0, .slice none 0 0, .slice none 0 0]) := hid (M3.set 11 _)
  have QS := hid (Q3.out.far (p := ⟨M, 11, none⟩) (Nat.lt_succ_self _) (.slice xq qs.length cq))
  have RS := hid (K3.far (p := ⟨M, 11, none⟩) (by simp; omega) (.slice xq qs.length cq))
  have BS := hid (B3.setCell (p := ⟨M, 11, none⟩) (Nat.le_of_lt hM1) (.slice xq qs.length cq))
  clear M3 Q3 K3 B3
  rw [errV_none]
  go_wp2_with fail
  generalize W2.setCell ⟨M, 11, none⟩ (.slice xq qs.length cq) = W3 at *
  refine (records_any M _).mono ?_
  rintro e W4 ⟨rfl, b4⟩
  have ST : Hid (MSt h w M qs none none none W4) := hid (MSt.below ⟨xq, cq, _, _, _, KS.out, QS.out, (fun r e => by cases e), (fun r e => by cases e), (fun r e => by cases e), RS.out, hM1, BS.out⟩ b4)
  clear b4 KS QS RS BS m11 f11
  have j0 : ∀ u : World, (Instr.index 77 (secsV M) (.int .i64 0)).run Tryd.prog u = .ok (.pointer (some ⟨M, 12, none⟩)) u := fun _ => by kernel_rfl
  have j1 : ∀ u : World, (Instr.index 77 (secsV M) (.int .i64 1)).run Tryd.prog u = .ok (.pointer (some ⟨M, 13, none⟩)) u := fun _ => by kernel_rfl
  have j2 : ∀ u : World, (Instr.index 77 (secsV M) (.int .i64 2)).run Tryd.prog u = .ok (.pointer (some ⟨M, 14, none⟩)) u := fun _ => by kernel_rfl
  go_wp2_with fail
  go_loopw [8, 42] (fun va vi wr => MRel h w M qs r1 r2 r3 k1 k2 k3 a0 a1 a2 a3 va vi wr) (fun _ i _ => 3 - (intOf i).toNat)
  case atStart => exact Or.inl ⟨rfl, rfl, ST.out⟩
  case round =>
    clear ST
    rcases hrel with ⟨rfl, rfl, st⟩ | ⟨z1, rfl, rfl, st⟩ | ⟨z1, z2, rfl, rfl, st⟩ | ⟨z1, z2, z3, rfl, rfl, st⟩
    · have S := hid st
      have hMl : M < wr.heap.size := st.cell.2.2.2.2.2.2
      clear st
      have al := a0l
      go_wp2_with fail
      refine (count_at n1 1 ms _ (hs.below S.out.bel) rfl (by decide) h12' C1.out).mono ?_
      rintro e _ ⟨rfl, rfl⟩
      go_wp2_with fail
      refine (parts_r k1 r1 a1 ms a0 n1 _ (hs.below S.out.bel) rfl al p1 G1.out).mono ?_
      rintro e W5 ⟨y, s, rfl, hr5, b5⟩
      have S5 := hid (S.out.below b5)
      have S6 := hid (S5.out.put1 (hr5.base (B' := M + 1) hMl))
      obtain ⟨⟨v5, d5⟩, _, _, g5, _, _, _⟩ := S5.out.cell
      clear b5 hr5 S S5
      by_cases z1 : k1 = 0
      case neg =>
        have X : Hid (msgR ms = (k1, [], [], [], [])) := hid (msgR_1 h12' E0.out E1.out z1)
        rw [errV_some z1]
        have Z := hid z1
        clear z1
        go_upto_region 15 with fail
        clear d5 g5
        generalize W5.setCell ⟨M, 12, none⟩ (.slice y r1.length s) = W6 at *
        have K3 := S6.out.res
        have B3 := S6.out.bel
        clear S6
        have yc0 : W6.cell? ⟨w.heap.size, 0, none⟩ = some (.int .i64 0) := K3.cell (i := 0) rfl
        have yf0 := K3.frozen 0
        have yc1 : W6.cell? ⟨w.heap.size, 1, none⟩ = some (.bool false) := K3.cell (i := 1) rfl
        have yf1 := K3.frozen 1
        have yc2 : W6.cell? ⟨w.heap.size, 2, none⟩ = some (.int .i64 0) := K3.cell (i := 2) rfl
        have yf2 := K3.frozen 2
        have yc3 : W6.cell? ⟨w.heap.size, 3, none⟩ = some (.bool false) := K3.cell (i := 3) rfl
        have yf3 := K3.frozen 3
        have yc4 : W6.cell? ⟨w.heap.size, 4, none⟩ = some (.bool false) := K3.cell (i := 4) rfl
        have yf4 := K3.frozen 4
        have yc5 : W6.cell? ⟨w.heap.size, 5, none⟩ = some (.bool false) := K3.cell (i := 5) rfl
        have yf5 := K3.frozen 5
        have yc6 : W6.cell? ⟨w.heap.size, 6, none⟩ = some (.bool false) := K3.cell (i := 6) rfl
        have yf6 := K3.frozen 6
        have yc7 : W6.cell? ⟨w.heap.size, 7, none⟩ = some (.bool false) := K3.cell (i := 7) rfl
        have yf7 := K3.frozen 7
        have yc8 : W6.cell? ⟨w.heap.size, 8, none⟩ = some (.bool false) := K3.cell (i := 8) rfl
        have yf8 := K3.frozen 8
        have yc9 : W6.cell? ⟨w.heap.size, 9, none⟩ = some (.bool false) := K3.cell (i := 9) rfl
        have yf9 := K3.frozen 9
        have yc10 : W6.cell? ⟨w.heap.size, 10, none⟩ = some (.int .i64 0) := K3.cell (i := 10) rfl
        have yf10 := K3.frozen 10
        have yc11 : W6.cell? ⟨w.heap.size, 11, none⟩ = some (.slice none 0 0) := K3.cell (i := 11) rfl
        have yf11 := K3.frozen 11
        have yc12 : W6.cell? ⟨w.heap.size, 12, none⟩ = some (.slice none 0 0) := K3.cell (i := 12) rfl
        have yf12 := K3.frozen 12
        have yc13 : W6.cell? ⟨w.heap.size, 13, none⟩ = some (.slice none 0 0) := K3.cell (i := 13) rfl
        have yf13 := K3.frozen 13
        have yc14 : W6.cell? ⟨w.heap.size, 14, none⟩ = some (.slice none 0 0) := K3.cell (i := 14) rfl
        have yf14 := K3.frozen 14
        have QR := hid K3
        have QB := hid B3
        clear K3 B3
        go_wp2_with fail
        refine bodyPost_ret (results_mread _ _ w.heap.size _ _ _ _ _ _ _ _ _ _ _ _ _ _ _ rfl (QR.out.put15 _ _ _ _ _ _ _ _ _ _ _ _ _ _ _)) rfl ?_
        exact Or.inr ⟨k1, Z.out, X.out, rfl, below_put15 QB.out (Nat.le_refl _) _ _ _ _ _ _ _ _ _ _ _ _ _ _ _⟩
      subst z1
      rw [errV_none]
      go_wp2_with fail
      exact ⟨Or.inr (Or.inl ⟨rfl, rfl, rfl, S6.out⟩), by simp [intOf]⟩
    · have S := hid st
      have hMl : M < wr.heap.size := st.cell.2.2.2.2.2.2
      clear st
      subst z1
      have al := F1b.out rfl
      go_wp2_with fail
      refine (count_at n2 2 ms _ (hs.below S.out.bel) rfl (by decide) h12' C2.out).mono ?_
      rintro e _ ⟨rfl, rfl⟩
      go_wp2_with fail
      refine (parts_r k2 r2 a2 ms a1 n2 _ (hs.below S.out.bel) rfl al p2 G2.out).mono ?_
      rintro e W5 ⟨y, s, rfl, hr5, b5⟩
      have S5 := hid (S.out.below b5)
      have S6 := hid (S5.out.put2 (hr5.base (B' := M + 1) hMl))
      obtain ⟨_, ⟨v5, d5⟩, _, _, g5, _, _⟩ := S5.out.cell
      clear b5 hr5 S S5
      by_cases z2 : k2 = 0
      case neg =>
        have X : Hid (msgR ms = (k2, [], [], [], [])) := hid (msgR_2 h12' E0.out E1.out E2.out z2)
        rw [errV_some z2]
        have Z := hid z2
        clear z2
        go_upto_region 15 with fail
        clear d5 g5
        generalize W5.setCell ⟨M, 13, none⟩ (.slice y r2.length s) = W6 at *
        have K3 := S6.out.res
        have B3 := S6.out.bel
        clear S6
        have yc0 : W6.cell? ⟨w.heap.size, 0, none⟩ = some (.int .i64 0) := K3.cell (i := 0) rfl
        have yf0 := K3.frozen 0
        have yc1 : W6.cell? ⟨w.heap.size, 1, none⟩ = some (.bool false) := K3.cell (i := 1) rfl
        have yf1 := K3.frozen 1
        have yc2 : W6.cell? ⟨w.heap.size, 2, none⟩ = some (.int .i64 0) := K3.cell (i := 2) rfl
        have yf2 := K3.frozen 2
        have yc3 : W6.cell? ⟨w.heap.size, 3, none⟩ = some (.bool false) := K3.cell (i := 3) rfl
        have yf3 := K3.frozen 3
        have yc4 : W6.cell? ⟨w.heap.size, 4, none⟩ = some (.bool false) := K3.cell (i := 4) rfl
        have yf4 := K3.frozen 4
        have yc5 : W6.cell? ⟨w.heap.size, 5, none⟩ = some (.bool false) := K3.cell (i := 5) rfl
        have yf5 := K3.frozen 5
        have yc6 : W6.cell? ⟨w.heap.size, 6, none⟩ = some (.bool false) := K3.cell (i := 6) rfl
        have yf6 := K3.frozen 6
        have yc7 : W6.cell? ⟨w.heap.size, 7, none⟩ = some (.bool false) := K3.cell (i := 7) rfl
        have yf7 := K3.frozen 7
        have yc8 : W6.cell? ⟨w.heap.size, 8, none⟩ = some (.bool false) := K3.cell (i := 8) rfl
        have yf8 := K3.frozen 8
        have yc9 : W6.cell? ⟨w.heap.size, 9, none⟩ = some (.bool false) := K3.cell (i := 9) rfl
        have yf9 := K3.frozen 9
        have yc10 : W6.cell? ⟨w.heap.size, 10, none⟩ = some (.int .i64 0) := K3.cell (i := 10) rfl
        have yf10 := K3.frozen 10
        have yc11 : W6.cell? ⟨w.heap.size, 11, none⟩ = some (.slice none 0 0) := K3.cell (i := 11) rfl
        have yf11 := K3.frozen 11
        have yc12 : W6.cell? ⟨w.heap.size, 12, none⟩ = some (.slice none 0 0) := K3.cell (i := 12) rfl
        have yf12 := K3.frozen 12
        have yc13 : W6.cell? ⟨w.heap.size, 13, none⟩ = some (.slice none 0 0) := K3.cell (i := 13) rfl
        have yf13 := K3.frozen 13
        have yc14 : W6.cell? ⟨w.heap.size, 14, none⟩ = some (.slice none 0 0) := K3.cell (i := 14) rfl
        have yf14 := K3.frozen 14
        have QR := hid K3
        have QB := hid B3
        clear K3 B3
        go_wp2_with fail
        refine bodyPost_ret (results_mread _ _ w.heap.size _ _ _ _ _ _ _ _ _ _ _ _ _ _ _ rfl (QR.out.put15 _ _ _ _ _ _ _ _ _ _ _ _ _ _ _)) rfl ?_
        exact Or.inr ⟨k2, Z.out, X.out, rfl, below_put15 QB.out (Nat.le_refl _) _ _ _ _ _ _ _ _ _ _ _ _ _ _ _⟩
      subst z2
      rw [errV_none]
      go_wp2_with fail
      exact ⟨Or.inr (Or.inr (Or.inl ⟨rfl, rfl, rfl, rfl, S6.out⟩)), by simp [intOf]⟩
    · have S := hid st
      have hMl : M < wr.heap.size := st.cell.2.2.2.2.2.2
      clear st
      subst z1
      subst z2
      have al := F2b.out rfl rfl
      go_wp2_with fail
      refine (count_at n3 3 ms _ (hs.below S.out.bel) rfl (by decide) h12' C3.out).mono ?_
      rintro e _ ⟨rfl, rfl⟩
      go_wp2_with fail
      refine (parts_r k3 r3 a3 ms a2 n3 _ (hs.below S.out.bel) rfl al p3 G3.out).mono ?_
      rintro e W5 ⟨y, s, rfl, hr5, b5⟩
      have S5 := hid (S.out.below b5)
      have S6 := hid (S5.out.put3 (hr5.base (B' := M + 1) hMl))
      obtain ⟨_, _, ⟨v5, d5⟩, _, _, g5, _⟩ := S5.out.cell
      clear b5 hr5 S S5
      by_cases z3 : k3 = 0
      case neg =>
        have X : Hid (msgR ms = (k3, [], [], [], [])) := hid (msgR_3 h12' E0.out E1.out E2.out E3.out z3)
        rw [errV_some z3]
        have Z := hid z3
        clear z3
        go_upto_region 15 with fail
        clear d5 g5
        generalize W5.setCell ⟨M, 14, none⟩ (.slice y r3.length s) = W6 at *
        have K3 := S6.out.res
        have B3 := S6.out.bel
        clear S6
        have yc0 : W6.cell? ⟨w.heap.size, 0, none⟩ = some (.int .i64 0) := K3.cell (i := 0) rfl
        have yf0 := K3.frozen 0
        have yc1 : W6.cell? ⟨w.heap.size, 1, none⟩ = some (.bool false) := K3.cell (i := 1) rfl
        have yf1 := K3.frozen 1
        have yc2 : W6.cell? ⟨w.heap.size, 2, none⟩ = some (.int .i64 0) := K3.cell (i := 2) rfl
        have yf2 := K3.frozen 2
        have yc3 : W6.cell? ⟨w.heap.size, 3, none⟩ = some (.bool false) := K3.cell (i := 3) rfl
        have yf3 := K3.frozen 3
        have yc4 : W6.cell? ⟨w.heap.size, 4, none⟩ = some (.bool false) := K3.cell (i := 4) rfl
        have yf4 := K3.frozen 4
        have yc5 : W6.cell? ⟨w.heap.size, 5, none⟩ = some (.bool false) := K3.cell (i := 5) rfl
        have yf5 := K3.frozen 5
        have yc6 : W6.cell? ⟨w.heap.size, 6, none⟩ = some (.bool false) := K3.cell (i := 6) rfl
        have yf6 := K3.frozen 6
        have yc7 : W6.cell? ⟨w.heap.size, 7, none⟩ = some (.bool false) := K3.cell (i := 7) rfl
        have yf7 := K3.frozen 7
        have yc8 : W6.cell? ⟨w.heap.size, 8, none⟩ = some (.bool false) := K3.cell (i := 8) rfl
        have yf8 := K3.frozen 8
        have yc9 : W6.cell? ⟨w.heap.size, 9, none⟩ = some (.bool false) := K3.cell (i := 9) rfl
        have yf9 := K3.frozen 9
        have yc10 : W6.cell? ⟨w.heap.size, 10, none⟩ = some (.int .i64 0) := K3.cell (i := 10) rfl
        have yf10 := K3.frozen 10
        have yc11 : W6.cell? ⟨w.heap.size, 11, none⟩ = some (.slice none 0 0) := K3.cell (i := 11) rfl
        have yf11 := K3.frozen 11
        have yc12 : W6.cell? ⟨w.heap.size, 12, none⟩ = some (.slice none 0 0) := K3.cell (i := 12) rfl
        have yf12 := K3.frozen 12
        have yc13 : W6.cell? ⟨w.heap.size, 13, none⟩ = some (.slice none 0 0) := K3.cell (i := 13) rfl
        have yf13 := K3.frozen 13
        have yc14 : W6.cell? ⟨w.heap.size, 14, none⟩ = some (.slice none 0 0) := K3.cell (i := 14) rfl
        have yf14 := K3.frozen 14
        have QR := hid K3
        have QB := hid B3
        clear K3 B3
        go_wp2_with fail
        refine bodyPost_ret (results_mread _ _ w.heap.size _ _ _ _ _ _ _ _ _ _ _ _ _ _ _ rfl (QR.out.put15 _ _ _ _ _ _ _ _ _ _ _ _ _ _ _)) rfl ?_
        exact Or.inr ⟨k3, Z.out, X.out, rfl, below_put15 QB.out (Nat.le_refl _) _ _ _ _ _ _ _ _ _ _ _ _ _ _ _⟩
      subst z3
      rw [errV_none]
      go_wp2_with fail
      exact ⟨Or.inr (Or.inr (Or.inr ⟨rfl, rfl, rfl, rfl, rfl, S6.out⟩)), by simp [intOf]⟩
    · subst z1 z2 z3
      have al := F3b.out rfl rfl rfl
      have X := hid (msgR_4 h12' E0.out E1.out E2.out E3.out)
      have S := hid st
      clear st
      by_cases hc1 : a3 < ms.length
      · have X2 : Hid (msgR ms = (8, [], [], [], [])) := hid (by rw [X.out, if_pos hc1])
        have hc2 : (a3 : Int) < (ms.length : Int) := by omega
        have K3 := S.out.res
        have B3 := S.out.bel
        clear S
        have yc0 : wr.cell? ⟨w.heap.size, 0, none⟩ = some (.int .i64 0) := K3.cell (i := 0) rfl
        have yf0 := K3.frozen 0
        have yc1 : wr.cell? ⟨w.heap.size, 1, none⟩ = some (.bool false) := K3.cell (i := 1) rfl
        have yf1 := K3.frozen 1
        have yc2 : wr.cell? ⟨w.heap.size, 2, none⟩ = some (.int .i64 0) := K3.cell (i := 2) rfl
        have yf2 := K3.frozen 2
        have yc3 : wr.cell? ⟨w.heap.size, 3, none⟩ = some (.bool false) := K3.cell (i := 3) rfl
        have yf3 := K3.frozen 3
        have yc4 : wr.cell? ⟨w.heap.size, 4, none⟩ = some (.bool false) := K3.cell (i := 4) rfl
        have yf4 := K3.frozen 4
        have yc5 : wr.cell? ⟨w.heap.size, 5, none⟩ = some (.bool false) := K3.cell (i := 5) rfl
        have yf5 := K3.frozen 5
        have yc6 : wr.cell? ⟨w.heap.size, 6, none⟩ = some (.bool false) := K3.cell (i := 6) rfl
        have yf6 := K3.frozen 6
        have yc7 : wr.cell? ⟨w.heap.size, 7, none⟩ = some (.bool false) := K3.cell (i := 7) rfl
        have yf7 := K3.frozen 7
        have yc8 : wr.cell? ⟨w.heap.size, 8, none⟩ = some (.bool false) := K3.cell (i := 8) rfl
        have yf8 := K3.frozen 8
        have yc9 : wr.cell? ⟨w.heap.size, 9, none⟩ = some (.bool false) := K3.cell (i := 9) rfl
        have yf9 := K3.frozen 9
        have yc10 : wr.cell? ⟨w.heap.size, 10, none⟩ = some (.int .i64 0) := K3.cell (i := 10) rfl
        have yf10 := K3.frozen 10
        have yc11 : wr.cell? ⟨w.heap.size, 11, none⟩ = some (.slice none 0 0) := K3.cell (i := 11) rfl
        have yf11 := K3.frozen 11
        have yc12 : wr.cell? ⟨w.heap.size, 12, none⟩ = some (.slice none 0 0) := K3.cell (i := 12) rfl
        have yf12 := K3.frozen 12
        have yc13 : wr.cell? ⟨w.heap.size, 13, none⟩ = some (.slice none 0 0) := K3.cell (i := 13) rfl
        have yf13 := K3.frozen 13
        have yc14 : wr.cell? ⟨w.heap.size, 14, none⟩ = some (.slice none 0 0) := K3.cell (i := 14) rfl
        have yf14 := K3.frozen 14
        have QR := hid K3
        have QB := hid B3
        clear K3 B3
        go_wp2_with fail
        refine bodyPost_ret (results_mread _ _ w.heap.size _ _ _ _ _ _ _ _ _ _ _ _ _ _ _ rfl (QR.out.put15 _ _ _ _ _ _ _ _ _ _ _ _ _ _ _)) rfl ?_
        exact Or.inr ⟨8, by decide, X2.out, rfl, below_put15 QB.out (Nat.le_refl _) _ _ _ _ _ _ _ _ _ _ _ _ _ _ _⟩
      · have X2 : Hid (msgR ms = (0, qs, r1, r2, r3)) := hid (by rw [X.out, if_neg hc1])
        have hc2 : ¬ (a3 : Int) < (ms.length : Int) := by omega
        obtain ⟨xq, cq, v1, v2, v3, k1, k2, k3, k4, k5, k6, k7, k8⟩ := S.out
        obtain ⟨x1, c1, rfl, s1⟩ := k3 r1 rfl
        obtain ⟨x2, c2, rfl, s2⟩ := k4 r2 rfl
        obtain ⟨x3, c3, rfl, s3⟩ := k5 r3 rfl
        clear k3 k4 k5 S
        have xc0 : wr.cell? ⟨M, 0, none⟩ = some (.int .i64 h.id) := k1.cell (i := 0) rfl
        have xc1 : wr.cell? ⟨M, 1, none⟩ = some (.bool h.an) := k1.cell (i := 1) rfl
        have xc2 : wr.cell? ⟨M, 2, none⟩ = some (.int .i64 h.op) := k1.cell (i := 2) rfl
        have xc3 : wr.cell? ⟨M, 3, none⟩ = some (.bool h.aa) := k1.cell (i := 3) rfl
        have xc4 : wr.cell? ⟨M, 4, none⟩ = some (.bool h.tc) := k1.cell (i := 4) rfl
        have xc5 : wr.cell? ⟨M, 5, none⟩ = some (.bool h.rd) := k1.cell (i := 5) rfl
        have xc6 : wr.cell? ⟨M, 6, none⟩ = some (.bool h.ra) := k1.cell (i := 6) rfl
        have xc7 : wr.cell? ⟨M, 7, none⟩ = some (.bool h.z) := k1.cell (i := 7) rfl
        have xc8 : wr.cell? ⟨M, 8, none⟩ = some (.bool h.ad) := k1.cell (i := 8) rfl
        have xc9 : wr.cell? ⟨M, 9, none⟩ = some (.bool h.cd) := k1.cell (i := 9) rfl
        have xc10 : wr.cell? ⟨M, 10, none⟩ = some (.int .i64 h.code) := k1.cell (i := 10) rfl
        have xc11 : wr.cell? ⟨M, 11, none⟩ = some (.slice xq qs.length cq) := k1.cell (i := 11) rfl
        have xc12 : wr.cell? ⟨M, 12, none⟩ = some (.slice x1 r1.length c1) := k1.cell (i := 12) rfl
        have xc13 : wr.cell? ⟨M, 13, none⟩ = some (.slice x2 r2.length c2) := k1.cell (i := 13) rfl
        have xc14 : wr.cell? ⟨M, 14, none⟩ = some (.slice x3 r3.length c3) := k1.cell (i := 14) rfl
        have QQ := hid k2
        have Q1 := hid s1
        have Q2 := hid s2
        have Q3 := hid s3
        have hMl : M < wr.heap.size := k1.lt
        clear k1 k2 s1 s2 s3
        have yc0 : wr.cell? ⟨w.heap.size, 0, none⟩ = some (.int .i64 0) := k6.cell (i := 0) rfl
        have yf0 := k6.frozen 0
        have yc1 : wr.cell? ⟨w.heap.size, 1, none⟩ = some (.bool false) := k6.cell (i := 1) rfl
        have yf1 := k6.frozen 1
        have yc2 : wr.cell? ⟨w.heap.size, 2, none⟩ = some (.int .i64 0) := k6.cell (i := 2) rfl
        have yf2 := k6.frozen 2
        have yc3 : wr.cell? ⟨w.heap.size, 3, none⟩ = some (.bool false) := k6.cell (i := 3) rfl
        have yf3 := k6.frozen 3
        have yc4 : wr.cell? ⟨w.heap.size, 4, none⟩ = some (.bool false) := k6.cell (i := 4) rfl
        have yf4 := k6.frozen 4
        have yc5 : wr.cell? ⟨w.heap.size, 5, none⟩ = some (.bool false) := k6.cell (i := 5) rfl
        have yf5 := k6.frozen 5
        have yc6 : wr.cell? ⟨w.heap.size, 6, none⟩ = some (.bool false) := k6.cell (i := 6) rfl
        have yf6 := k6.frozen 6
        have yc7 : wr.cell? ⟨w.heap.size, 7, none⟩ = some (.bool false) := k6.cell (i := 7) rfl
        have yf7 := k6.frozen 7
        have yc8 : wr.cell? ⟨w.heap.size, 8, none⟩ = some (.bool false) := k6.cell (i := 8) rfl
        have yf8 := k6.frozen 8
        have yc9 : wr.cell? ⟨w.heap.size, 9, none⟩ = some (.bool false) := k6.cell (i := 9) rfl
        have yf9 := k6.frozen 9
        have yc10 : wr.cell? ⟨w.heap.size, 10, none⟩ = some (.int .i64 0) := k6.cell (i := 10) rfl
        have yf10 := k6.frozen 10
        have yc11 : wr.cell? ⟨w.heap.size, 11, none⟩ = some (.slice none 0 0) := k6.cell (i := 11) rfl
        have yf11 := k6.frozen 11
        have yc12 : wr.cell? ⟨w.heap.size, 12, none⟩ = some (.slice none 0 0) := k6.cell (i := 12) rfl
        have yf12 := k6.frozen 12
        have yc13 : wr.cell? ⟨w.heap.size, 13, none⟩ = some (.slice none 0 0) := k6.cell (i := 13) rfl
        have yf13 := k6.frozen 13
        have yc14 : wr.cell? ⟨w.heap.size, 14, none⟩ = some (.slice none 0 0) := k6.cell (i := 14) rfl
        have yf14 := k6.frozen 14
        have QR := hid k6
        have QB := hid k8
        clear k6 k8
        go_wp2_with fail
        refine bodyPost_ret (results_mread _ _ w.heap.size _ _ _ _ _ _ _ _ _ _ _ _ _ _ _ rfl (QR.out.put15 _ _ _ _ _ _ _ _ _ _ _ _ _ _ _)) rfl ?_
        refine Or.inl ⟨qs, r1, r2, r3, X2.out, ?_⟩
        rw [HH.out]
        exact ⟨xq, cq, x1, c1, x2, c2, x3, c3, rfl, (far15q QQ.out (by omega) _ _ _ _ _ _ _ _ _ _ _ _ _ _ _).base (by omega), (far15r Q1.out (by omega) _ _ _ _ _ _ _ _ _ _ _ _ _ _ _).base (by omega), (far15r Q2.out (by omega) _ _ _ _ _ _ _ _ _ _ _ _ _ _ _).base (by omega), (far15r Q3.out (by omega) _ _ _ _ _ _ _ _ _ _ _ _ _ _ _).base (by omega), below_put15 QB.out (Nat.le_refl _) _ _ _ _ _ _ _ _ _ _ _ _ _ _ _⟩

end Go.Proofs.YtbbgabdiikdjpaaDoor
