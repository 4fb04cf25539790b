/-
  Plain facts on messages: a beginning alone is too short, bytes behind are too many; how long a message can be; a message without anything. Plain: what was written is read: the parts one behind the other, the whole message; and what was read can be written, if it is not too long. The walk of package edns' optionsOf: options read out of bytes, in memory of the call's own. The walk of package edns' optOf: what a record tells of its message.
-/
import Derived.Test.YtbbgabdiikdjpaaDoorMgRead
import Derived.Test.YtbbgabdiikdjpaaDoorMgWrite
import Derived.Test.YtbbgabdiikdjpaaDoorJF
import Derived.Test.YtbbgabdiikdjpaaDoorRrRead
import Derived.Test.YtbbgabdiikdjpaaDoorJH
import Derived.Test.YtbbgabdiikdjpaaDoorMgMem
import Derived.Maps.AppendAt
namespace Go.Proofs.YtbbgabdiikdjpaaDoor
open Go.RowKit Go.Deep

theorem getD_take {ms : List Int} {n a : Nat} (h : a < (ms.take n).length) : (ms.take n).getD a 0 = ms.getD a 0 := by
  rw [List.length_take] at h
  rw [List.getD_eq_getElem?_getD, List.getD_eq_getElem?_getD, List.getElem?_take_of_lt (by omega)]

theorem cut_take {ms : List Int} {n a k : Nat} (h : a + k ≤ (ms.take n).length) : Nm.cut (ms.take n) a k = Nm.cut ms a k := by
  rw [List.length_take] at h
  unfold Nm.cut
  rw [List.drop_take, List.take_take, Nat.min_eq_left (by omega)]

theorem rd_torn (ms : List Int) (n : Nat) : ∀ (f a low size : Nat) (L : List (List Int)) (e : Nat), Nm.rd ms f a low size = (0, L, e) → Nm.rd (ms.take n) f a low size = (0, L, e) ∨ (Nm.rd (ms.take n) f a low size).1 = 2 := by
  intro f
  induction f with
  | zero => intro a low size L e h; exact absurd h Nm.rd_zero
  | succ f ih =>
    intro a low size L e h
    by_cases c1 : (ms.take n).length ≤ a
    · right; unfold Nm.rd; rw [if_pos c1]
    have e1 := getD_take (ms := ms) (n := n) (a := a) (by omega)
    rcases Nm.rd_cases h with ⟨h1, h2, rfl, rfl⟩ | ⟨h1, h2, h3, h4, rfl, e', h5⟩ | ⟨h1, h2, h3, h4, h5, M, rfl, h6⟩
    · left; exact Nm.rd_end (by omega) (by rw [e1]; exact h2)
    · by_cases c2 : (ms.take n).length ≤ a + 1
      · right; unfold Nm.rd; rw [if_neg c1, if_neg (by rw [e1]; exact h2), if_pos (by rw [e1]; exact h3), if_pos c2]
      · have e2 : Nm.place (ms.take n) a = Nm.place ms a := by unfold Nm.place; rw [e1, getD_take (by omega)]
        rcases ih _ _ _ _ _ h5 with q | q
        · left; exact Nm.rd_ptr (by omega) (by rw [e1]; exact h2) (by rw [e1]; exact h3) (by rw [e2]; exact h4) (by rw [e2]; exact q)
        · right
          unfold Nm.rd
          rw [if_neg c1, if_neg (by rw [e1]; exact h2), if_pos (by rw [e1]; exact h3), if_neg c2, if_neg (by rw [e2]; omega), e2]
          unfold Nm.ends
          rw [if_neg (by rw [q]; decide)]
          exact q
    · have e2 : Nm.long (ms.take n) a = Nm.long ms a := by unfold Nm.long; rw [e1]
      by_cases c2 : (ms.take n).length ≤ a + Nm.long ms a
      · right; unfold Nm.rd; rw [if_neg c1, if_neg (by rw [e1]; exact h2), if_neg (by rw [e1]; exact h3), if_neg (by rw [e1]; exact h4), if_pos (by rw [e2]; exact c2)]
      · have e3 := cut_take (ms := ms) (n := n) (a := a + 1) (k := Nm.long ms a) (by omega)
        rcases ih _ _ _ _ _ h6 with q | q
        · left
          have := @Nm.rd_label (ms.take n) f a low size M e (by rw [e2]; omega) (by rw [e1]; exact h2) (by rw [e1]; exact h3) (by rw [e1]; exact h4) (by rw [e2]; exact h5) (by rw [e2]; exact q)
          rw [this, e2, e3]
        · right
          unfold Nm.rd
          rw [if_neg c1, if_neg (by rw [e1]; exact h2), if_neg (by rw [e1]; exact h3), if_neg (by rw [e1]; exact h4), if_neg (by rw [e2]; exact c2), if_neg (by rw [e2]; omega), e2]
          unfold Nm.ahead
          rw [if_neg (by rw [q]; decide)]
          exact q

theorem readW_torn {ms : List Int} (n : Nat) {at0 : Int} {L : List (List Int)} {e : Nat} (h : readW ms at0 = (0, L, e)) : readW (ms.take n) at0 = (0, L, e) ∨ (readW (ms.take n) at0).1 = 2 := by
  obtain ⟨h0, h1⟩ := readW_ok h
  have hf : Nm.fu (ms.take n) at0.toNat at0.toNat ≤ Nm.fu ms at0.toNat at0.toNat := by
    have h2 : (ms.take n).length ≤ ms.length := by rw [List.length_take]; omega
    have h3 : at0.toNat * ((ms.take n).length + 1) ≤ at0.toNat * (ms.length + 1) := Nat.mul_le_mul_left _ (by omega)
    unfold Nm.fu
    omega
  have h2 := rd_torn ms n _ _ _ _ _ _ h1
  rw [Nm.rd_enough (ms.take n) at0.toNat at0.toNat 1 _ hf] at h2
  unfold readW
  rw [if_neg (by omega)]
  exact h2

theorem readQ_torn {ms : List Int} (n a : Nat) (q : Qn) (m : Nat) (h : readQ ms a = (0, q, m)) : readQ (ms.take n) a = (0, q, m) ∨ (readQ (ms.take n) a).1 = 2 := by
  obtain ⟨L, k, h1, h2, rfl, rfl⟩ := readQ_ok h
  rcases readW_torn n h1 with g | g
  · by_cases c : (ms.take n).length < k + 4
    · right; rw [readQ_short g c]
    · left; rw [readQ_of g (by omega), cut_take (by omega), cut_take (by omega)]
  · right
    obtain ⟨⟨k2, L2, m2⟩, e⟩ : ∃ s, readW (ms.take n) (a : Int) = s := ⟨_, rfl⟩
    rw [e] at g
    simp only at g
    subst g
    rw [readQ_bad e (by decide)]

theorem readR_torn {ms : List Int} (n a : Nat) (r : Rn) (m : Nat) (h : readR ms a = (0, r, m)) : readR (ms.take n) a = (0, r, m) ∨ (readR (ms.take n) a).1 = 2 := by
  obtain ⟨L, k, h1, h2, h3, rfl⟩ := readR_ok h
  obtain ⟨h4, _, _⟩ := recW_ok h1
  rcases readW_torn n h4 with g | g
  · have hp : ∀ i, i + 2 ≤ (ms.take n).length → pairN (ms.take n) i = pairN ms i := by
      intro i hi
      unfold pairN
      rw [getD_take (by omega), getD_take (by omega)]
    by_cases c : (ms.take n).length < k + 10
    · right
      rw [readR_bad (k := 2) (by unfold recW; rw [g]; simp only; rw [if_neg (by simp), if_pos c]) (by decide)]
    · by_cases c2 : (ms.take n).length < k + 10 + pairN ms (k + 8)
      · right
        rw [readR_bad (k := 2) (by unfold recW; rw [g]; simp only; rw [if_neg (by simp), if_neg c, hp _ (by omega), if_pos c2]) (by decide)]
      · left
        have e : recW (ms.take n) (a : Int) = (0, L, k, m) := by
          unfold recW
          rw [g]
          simp only
          rw [if_neg (by simp), if_neg c, hp _ (by omega), if_neg c2, h2]
        rw [readR_of e, cut_take (by omega), cut_take (by omega), cut_take (by omega), hp _ (by omega), cut_take (by omega)]
  · right
    obtain ⟨⟨k2, L2, m2⟩, e⟩ : ∃ s, readW (ms.take n) (a : Int) = s := ⟨_, rfl⟩
    rw [e] at g
    simp only at g
    subst g
    rw [readR_bad (k := 2) (by unfold recW; rw [e]; simp only; rw [if_pos (by decide)]) (by decide)]

/-- No beginning alone of bytes that are a message is one. -/
theorem msgR_torn {ms : List Int} (hb : ∀ b ∈ ms, 0 ≤ b ∧ b ≤ 255) {qs : List Qn} {r1 r2 r3 : List Rn} (h : msgR ms = (0, qs, r1, r2, r3)) {n : Nat} (hn : n < ms.length) : msgR (ms.take n) = (2, [], [], [], []) := by
  obtain ⟨h12, a0, a1, a2, e0, e1, e2, e3, f0, f1, f2⟩ := msgR_ok hb h
  have hl : (ms.take n).length = n := by rw [List.length_take]; omega
  by_cases c : n < 12
  · exact msgR_short (by omega)
  have hb' : ∀ b ∈ ms.take n, 0 ≤ b ∧ b ≤ 255 := fun b q => hb b (List.mem_of_mem_take q)
  have hp : ∀ i, i + 2 ≤ 12 → pairN (ms.take n) i = pairN ms i := by
    intro i hi
    unfold pairN
    rw [getD_take (by omega), getD_take (by omega)]
  have g0 := parts_cut (readQ_torn (ms := ms) n) e0
  rcases g0 with g0 | g0
  case inr =>
    obtain ⟨⟨k, l, m⟩, e⟩ : ∃ s, partsN (readQ (ms.take n)) (pairN ms 4) 12 = s := ⟨_, rfl⟩
    rw [e] at g0; simp only at g0; subst g0
    rw [← hp 4 (by omega)] at e
    exact msgR_q (by omega) e (by decide)
  have g1 := parts_cut (readR_torn (ms := ms) n) e1
  rw [← hp 4 (by omega)] at g0
  rcases g1 with g1 | g1
  case inr =>
    obtain ⟨⟨k, l, m⟩, e⟩ : ∃ s, partsN (readR (ms.take n)) (pairN ms 6) a0 = s := ⟨_, rfl⟩
    rw [e] at g1; simp only at g1; subst g1
    rw [← hp 6 (by omega)] at e
    exact msgR_1 (by omega) g0 e (by decide)
  have g2 := parts_cut (readR_torn (ms := ms) n) e2
  rw [← hp 6 (by omega)] at g1
  rcases g2 with g2 | g2
  case inr =>
    obtain ⟨⟨k, l, m⟩, e⟩ : ∃ s, partsN (readR (ms.take n)) (pairN ms 8) a1 = s := ⟨_, rfl⟩
    rw [e] at g2; simp only at g2; subst g2
    rw [← hp 8 (by omega)] at e
    exact msgR_2 (by omega) g0 g1 e (by decide)
  have g3 := parts_cut (readR_torn (ms := ms) n) e3
  rw [← hp 8 (by omega)] at g2
  rcases g3 with g3 | g3
  case inr =>
    obtain ⟨⟨k, l, m⟩, e⟩ : ∃ s, partsN (readR (ms.take n)) (pairN ms 10) a2 = s := ⟨_, rfl⟩
    rw [e] at g3; simp only at g3; subst g3
    rw [← hp 10 (by omega)] at e
    exact msgR_3 (by omega) g0 g1 g2 e (by decide)
  exfalso
  have k0 := parts_end (readQ_step hb') (parts_ok g0).2 (by omega)
  have k1 := parts_end (readR_step hb') (parts_ok g1).2 k0.2
  have k2 := parts_end (readR_step hb') (parts_ok g2).2 k1.2
  have k3 := parts_end (readR_step hb') (parts_ok g3).2 k2.2
  omega

theorem parts_more {α : Type} {f g : Nat → Int × α × Nat} (hfg : ∀ a x n, f a = (0, x, n) → g a = (0, x, n)) {c a e : Nat} {xs : List α} (h : partsN f c a = (0, xs, e)) : partsN g c a = (0, xs, e) := by
  obtain ⟨h1, h2⟩ := parts_ok h
  have := parts_of (parts_mono hfg h2)
  rw [h1] at this
  exact this

/-- Nor are they with more behind them. -/
theorem msgR_extra {ms : List Int} (hb : ∀ b ∈ ms, 0 ≤ b ∧ b ≤ 255) {qs : List Qn} {r1 r2 r3 : List Rn} (h : msgR ms = (0, qs, r1, r2, r3)) {more : List Int} (hm : ¬ more = []) : msgR (ms ++ more) = (8, [], [], [], []) := by
  obtain ⟨h12, a0, a1, a2, e0, e1, e2, e3, f0, f1, f2⟩ := msgR_ok hb h
  have hl : 0 < more.length := by
    rcases Nat.eq_zero_or_pos more.length with q | q
    · exact absurd (List.length_eq_zero_iff.1 q) hm
    · exact q
  have g0 := parts_more (readQ_more more) e0
  have g1 := parts_more (readR_more more) e1
  have g2 := parts_more (readR_more more) e2
  have g3 := parts_more (readR_more more) e3
  rw [← pair_more ms more 4 (by omega)] at g0
  rw [← pair_more ms more 6 (by omega)] at g1
  rw [← pair_more ms more 8 (by omega)] at g2
  rw [← pair_more ms more 10 (by omega)] at g3
  rw [msgR_4 (by rw [List.length_append]; omega) g0 g1 g2 g3, if_pos (by rw [List.length_append]; omega)]

theorem rd_far {ms : List Int} : ∀ (f a low size : Nat) (L : List (List Int)) (e : Nat), Nm.rd ms f a low size = (0, L, e) → e ≤ a + Nm.total L + 2 := by
  intro f
  induction f with
  | zero => intro a low size L e h; exact absurd h Nm.rd_zero
  | succ f ih =>
    intro a low size L e h
    rcases Nm.rd_cases h with ⟨h1, h2, rfl, rfl⟩ | ⟨h1, h2, h3, h4, rfl, e', h5⟩ | ⟨h1, h2, h3, h4, h5, M, rfl, h6⟩
    · omega
    · omega
    · have := ih _ _ _ _ _ h6
      rw [Nm.total_cons, Nm.cut_length (by omega)]
      omega

theorem readW_far {ms : List Int} (hb : ∀ b ∈ ms, 0 ≤ b ∧ b ≤ 255) {a : Nat} {L : List (List Int)} {e : Nat} (h : readW ms (a : Int) = (0, L, e)) : e ≤ a + 256 := by
  obtain ⟨h0, h1⟩ := readW_ok h
  have h2 := rd_far _ _ _ _ _ _ h1
  obtain ⟨_, _, _, h3, _⟩ := readW_may hb h
  have := (check_zero h3).2
  omega

theorem parts_far {α : Type} {f : Nat → Int × α × Nat} {K : Nat} (hf : ∀ a x n, f a = (0, x, n) → n ≤ a + K) : ∀ {xs : List α} {a e : Nat}, Parts f a xs e → e ≤ a + xs.length * K := by
  intro xs
  induction xs with
  | nil => intro a e h; unfold Parts at h; subst h; omega
  | cons x xs ih =>
    intro a e h
    unfold Parts at h
    obtain ⟨n, h1, h2⟩ := h
    have := hf a x n h1
    have := ih h2
    rw [List.length_cons, Nat.succ_mul]
    omega

/-- How long bytes that are a message can be. -/
theorem msg_long {ms : List Int} (hb : ∀ b ∈ ms, 0 ≤ b ∧ b ≤ 255) {qs : List Qn} {r1 r2 r3 : List Rn} (h : msgR ms = (0, qs, r1, r2, r3)) : ms.length ≤ 20000000000 := by
  obtain ⟨h12, a0, a1, a2, e0, e1, e2, e3, f0, f1, f2⟩ := msgR_ok hb h
  have q0 : ∀ a x n, readQ ms a = (0, x, n) → n ≤ a + 66000 := by
    intro a x n h
    obtain ⟨L, m, h1, _, rfl, _⟩ := readQ_ok h
    have := readW_far hb h1
    omega
  have q1 : ∀ a x n, readR ms a = (0, x, n) → n ≤ a + 66000 := by
    intro a x n h
    obtain ⟨L, m, h1, h2, _, _⟩ := readR_ok h
    have := readW_far hb (recW_ok h1).1
    have := pair_le hb (m + 8)
    omega
  obtain ⟨l0, p0⟩ := parts_ok e0
  obtain ⟨l1, p1⟩ := parts_ok e1
  obtain ⟨l2, p2⟩ := parts_ok e2
  obtain ⟨l3, p3⟩ := parts_ok e3
  have k0 := parts_far q0 p0
  have k1 := parts_far q1 p1
  have k2 := parts_far q1 p2
  have k3 := parts_far q1 p3
  have z0 := pair_le hb 4
  have z1 := pair_le hb 6
  have z2 := pair_le hb 8
  have z3 := pair_le hb 10
  omega

/-- A message without anything. -/
def hdZ : Hd := ⟨0, false, 0, false, false, false, false, false, false, false, 0⟩

theorem fact_empty : msgE hdZ [] [] [] [] = 0 ∧ (endS hdZ [] [] [] []).1.length = 12 := by decide +kernel

theorem mwrite_empty (w : World) : Calls Tryd.prog 10 #[.agg #[.int .i64 0, .bool false, .int .i64 0, .bool false, .bool false, .bool false, .bool false, .bool false, .bool false, .bool false, .int .i64 0, .slice none 0 0, .slice none 0 0, .slice none 0 0, .slice none 0 0]] w fun e w' => ∃ x c, e = .returned (.tuple #[.slice x 12 c, .nilIface]) ∧ Below w.heap.size w w' := by
  have k := mwrite_any (bq := 0) hdZ [] [] [] [] w (Qs.nil w 0 none 0) (Rs.nil w 0 none 0) (Rs.nil w 0 none 0) (Rs.nil w 0 none 0)
  have k2 : Calls Tryd.prog 10 #[.agg #[.int .i64 0, .bool false, .int .i64 0, .bool false, .bool false, .bool false, .bool false, .bool false, .bool false, .bool false, .int .i64 0, .slice none 0 0, .slice none 0 0, .slice none 0 0, .slice none 0 0]] w (WrotePost hdZ [] [] [] [] w) := k
  refine k2.mono ?_
  rintro e w' (⟨_, x, c, rfl, _, hb⟩ | ⟨hn, _⟩)
  · rw [fact_empty.2]
    exact ⟨x, c, rfl, hb⟩
  · exact absurd fact_empty.1 hn

theorem mread_err {x : Option Addr} {c l : Nat} (k : Int) (ms : List Int) (w : World) (hs : Bys w x c ms) (hl : ms.length = l) (hr : msgR ms = (k, [], [], [], [])) (hk : ¬ k = 0) :
    Calls Tryd.prog 6 #[.slice x l c] w fun e w' => e = .returned (.tuple #[.agg #[.int .i64 0, .bool false, .int .i64 0, .bool false, .bool false, .bool false, .bool false, .bool false, .bool false, .bool false, .int .i64 0, .slice none 0 0, .slice none 0 0, .slice none 0 0, .slice none 0 0], .iface 29 (.int .i64 k)]) ∧ Below w.heap.size w w' := by
  refine (mread_any ms w hs hl).mono ?_
  rintro e w' (⟨qs, r1, r2, r3, h, _⟩ | ⟨k', _, h, he, hb⟩)
  · rw [hr] at h
    simp only [Prod.mk.injEq] at h
    exact absurd h.1 hk
  · rw [hr] at h
    simp only [Prod.mk.injEq] at h
    rw [← h.1] at he
    exact ⟨he, hb⟩

theorem mread_good {x : Option Addr} {c l : Nat} {qs : List Qn} {r1 r2 r3 : List Rn} (ms : List Int) (w : World) (hs : Bys w x c ms) (hl : ms.length = l) (hr : msgR ms = (0, qs, r1, r2, r3)) :
    Calls Tryd.prog 6 #[.slice x l c] w (MsgAt (hdR ms) qs r1 r2 r3 w) := by
  refine (mread_any ms w hs hl).mono ?_
  rintro e w' (⟨qs', r1', r2', r3', h, k⟩ | ⟨k', h0, h, he, hb⟩)
  · rw [hr] at h
    simp only [Prod.mk.injEq, true_and] at h
    obtain ⟨rfl, rfl, rfl, rfl⟩ := h
    exact k
  · rw [hr] at h
    simp only [Prod.mk.injEq] at h
    exact absurd h.1.symm h0

theorem mread_norm (ms : List Int) : (msgR ms).1 = 0 ∨ msgR ms = ((msgR ms).1, [], [], [], []) := by
  by_cases h12 : ms.length < 12
  · right; rw [msgR_short h12]
  have h12' : 12 ≤ ms.length := by omega
  obtain ⟨⟨k0, qs, a0⟩, e0⟩ : ∃ s, partsN (readQ ms) (pairN ms 4) 12 = s := ⟨_, rfl⟩
  by_cases z0 : k0 = 0
  case neg => right; rw [msgR_q h12' e0 z0]
  subst z0
  obtain ⟨⟨k1, r1, a1⟩, e1⟩ : ∃ s, partsN (readR ms) (pairN ms 6) a0 = s := ⟨_, rfl⟩
  by_cases z1 : k1 = 0
  case neg => right; rw [msgR_1 h12' e0 e1 z1]
  subst z1
  obtain ⟨⟨k2, r2, a2⟩, e2⟩ : ∃ s, partsN (readR ms) (pairN ms 8) a1 = s := ⟨_, rfl⟩
  by_cases z2 : k2 = 0
  case neg => right; rw [msgR_2 h12' e0 e1 e2 z2]
  subst z2
  obtain ⟨⟨k3, r3, a3⟩, e3⟩ : ∃ s, partsN (readR ms) (pairN ms 10) a2 = s := ⟨_, rfl⟩
  by_cases z3 : k3 = 0
  case neg => right; rw [msgR_3 h12' e0 e1 e2 e3 z3]
  subst z3
  rw [msgR_4 h12' e0 e1 e2 e3]
  by_cases c : a3 < ms.length
  · right; rw [if_pos c]
  · left; rw [if_neg c]

theorem mread_hd {x : Option Addr} {c l : Nat} {qs : List Qn} {r1 r2 r3 : List Rn} (h : Hd) (ms : List Int) (w : World) (hs : Bys w x c ms) (hl : ms.length = l) (hr : msgR ms = (0, qs, r1, r2, r3)) (hh : hdR ms = h) :
    Calls Tryd.prog 6 #[.slice x l c] w (MsgAt h qs r1 r2 r3 w) := by
  subst hh
  exact mread_good ms w hs hl hr

end Go.Proofs.YtbbgabdiikdjpaaDoor

namespace Go.Proofs.YtbbgabdiikdjpaaDoor
open Go.RowKit Go.Deep

theorem fold_q (qs : List Qn) : ∀ s : List Int × List (Int × List ByteArray), ∃ more, (qs.foldl stepQ s).1 = s.1 ++ more := by
  induction qs with
  | nil => intro s; exact ⟨[], by simp⟩
  | cons q qs ih =>
    intro s
    obtain ⟨more, h⟩ := ih (stepQ s q)
    refine ⟨packB s.2 q.N ++ (twoN q.ty ++ twoN q.cl) ++ more, ?_⟩
    rw [List.foldl_cons, h]
    simp [stepQ]

theorem fold_r (rs : List Rn) : ∀ s : List Int × List (Int × List ByteArray), ∃ more, (rs.foldl stepR s).1 = s.1 ++ more := by
  induction rs with
  | nil => intro s; exact ⟨[], by simp⟩
  | cons r rs ih =>
    intro s
    obtain ⟨more, h⟩ := ih (stepR s r)
    refine ⟨packB s.2 r.N ++ fieldsN r.ty r.cl r.ttl r.D ++ more, ?_⟩
    rw [List.foldl_cons, h]
    simp [stepR]

theorem read_q {s : List Int × List (Int × List ByteArray)} {q : Qn} (hs : Good s) (hq : qE q = 0) (more : List Int) : readQ ((stepQ s q).1 ++ more) s.1.length = (0, q, (stepQ s q).1.length) := by
  obtain ⟨k0, ⟨t0, t1⟩, t2, t3⟩ := qE_zero hq
  have hr := (tab_next hs.1 hs.2.1 k0 (twoN q.ty ++ twoN q.cl ++ more)).1
  have e : (stepQ s q).1 ++ more = s.1 ++ packB s.2 q.N ++ (twoN q.ty ++ twoN q.cl ++ more) := by simp [stepQ]
  have el : (stepQ s q).1.length = (s.1 ++ packB s.2 q.N).length + 4 := by simp only [stepQ, List.length_append, two_len]
  rw [e, readQ_of hr (by simp only [List.length_append, two_len]; omega), el]
  generalize s.1 ++ packB s.2 q.N = P
  have c1 : Nm.cut (P ++ (twoN q.ty ++ twoN q.cl ++ more)) P.length 2 = twoN q.ty := by
    have := cut_behind P (twoN q.ty ++ twoN q.cl ++ more) 0 2
    rw [Nat.add_zero] at this
    rw [this]
    simp [Nm.cut, twoN]
  have c2 : Nm.cut (P ++ (twoN q.ty ++ twoN q.cl ++ more)) (P.length + 2) 2 = twoN q.cl := by
    rw [cut_behind]
    simp [Nm.cut, twoN]
  rw [c1, c2, two_num _ t0 t1, two_num _ t2 t3, map_nums]

theorem read_r {s : List Int × List (Int × List ByteArray)} {r : Rn} (hs : Good s) (hr : rE r = 0) (more : List Int) :
    recW ((stepR s r).1 ++ more) (s.1.length : Int) = (0, r.N.map Nm.bs, (s.1 ++ packB s.2 r.N).length, (stepR s r).1.length) ∧ readR ((stepR s r).1 ++ more) s.1.length = (0, r, (stepR s r).1.length) := by
  obtain ⟨k0, ⟨t0, t1⟩, ⟨t2, t3⟩, ⟨t4, t5⟩, hd⟩ := recE_zero hr
  have hp := (pack_is r.N hs.2.1).1
  have f := rec_found (ms := s.1) (starts := startsT s.2 r.N) (more := more) (n := r.N) (ty := r.ty) (cl := r.cl) (ttl := r.ttl) (D := r.D) hs.1 k0 hd
  rw [hp] at f
  have e : (stepR s r).1 ++ more = s.1 ++ packB s.2 r.N ++ fieldsN r.ty r.cl r.ttl r.D ++ more := rfl
  have el : (stepR s r).1.length = (s.1 ++ packB s.2 r.N).length + 10 + r.D.length := by
    show (s.1 ++ packB s.2 r.N ++ fieldsN r.ty r.cl r.ttl r.D).length = _
    rw [List.length_append, fields_len]
    omega
  have f2 : recW ((stepR s r).1 ++ more) (s.1.length : Int) = (0, r.N.map Nm.bs, (s.1 ++ packB s.2 r.N).length, (stepR s r).1.length) := by
    rw [el, e]
    exact f
  refine ⟨f2, ?_⟩
  rw [readR_of f2]
  have hpn : pairN ((stepR s r).1 ++ more) ((s.1 ++ packB s.2 r.N).length + 8) = r.D.length := by
    obtain ⟨_, h2, _⟩ := recW_ok f2
    omega
  rw [hpn, e]
  generalize s.1 ++ packB s.2 r.N = P
  rw [rec_ty P more t0 t1, rec_cl P more t2 t3, rec_ttl P more t4 t5, rec_data P more, map_nums]

theorem back_q : ∀ (qs : List Qn) (s : List Int × List (Int × List ByteArray)) (more : List Int), Good s → (∀ q ∈ qs, qE q = 0) → Parts (readQ ((qs.foldl stepQ s).1 ++ more)) s.1.length qs (qs.foldl stepQ s).1.length := by
  intro qs
  induction qs with
  | nil => intro s more _ _; rfl
  | cons q qs ih =>
    intro s more hs hq
    have h1 := hq q List.mem_cons_self
    obtain ⟨m2, e⟩ := fold_q qs (stepQ s q)
    rw [List.foldl_cons]
    refine ⟨(stepQ s q).1.length, ?_, ih (stepQ s q) more (good_q hs (qE_zero h1).1) fun x hx => hq x (List.mem_cons_of_mem _ hx)⟩
    rw [e, List.append_assoc]
    exact read_q hs h1 _

theorem back_r : ∀ (rs : List Rn) (s : List Int × List (Int × List ByteArray)) (more : List Int), Good s → (∀ r ∈ rs, rE r = 0) → (∀ r ∈ rs, ∀ b ∈ r.D, 0 ≤ b ∧ b ≤ 255) → Parts (readR ((rs.foldl stepR s).1 ++ more)) s.1.length rs (rs.foldl stepR s).1.length := by
  intro rs
  induction rs with
  | nil => intro s more _ _ _; rfl
  | cons r rs ih =>
    intro s more hs hr hD
    have h1 := hr r List.mem_cons_self
    obtain ⟨m2, e⟩ := fold_r rs (stepR s r)
    rw [List.foldl_cons]
    refine ⟨(stepR s r).1.length, ?_, ih (stepR s r) more (good_r hs (recE_zero h1).1 (hD r List.mem_cons_self)) (fun x hx => hr x (List.mem_cons_of_mem _ hx)) fun x hx => hD x (List.mem_cons_of_mem _ hx)⟩
    rw [e, List.append_assoc]
    exact (read_r hs h1 _).2

theorem parts_split {α : Type} {f : Nat → Int × α × Nat} : ∀ {xs ys : List α} {a e : Nat}, Parts f a (xs ++ ys) e → ∃ b, Parts f a xs b ∧ Parts f b ys e := by
  intro xs
  induction xs with
  | nil => intro ys a e h; exact ⟨a, rfl, h⟩
  | cons x xs ih =>
    intro ys a e h
    obtain ⟨n, h1, h2⟩ := h
    obtain ⟨b, h3, h4⟩ := ih h2
    exact ⟨b, ⟨n, h1, h3⟩, h4⟩

/-- A message that can be sent. -/
theorem msgE_zero {h : Hd} {qs : List Qn} {r1 r2 r3 : List Rn} (k : msgE h qs r1 r2 r3 = 0) : HdOk h ∧ (qs.length ≤ 65535 ∧ r1.length ≤ 65535 ∧ r2.length ≤ 65535 ∧ r3.length ≤ 65535) ∧ (∀ q ∈ qs, qE q = 0) ∧ (∀ r ∈ r1 ++ r2 ++ r3, rE r = 0) ∧ (endS h qs r1 r2 r3).1.length ≤ 65535 := by
  unfold msgE at k
  by_cases c0 : hdE h = 0
  case neg => rw [if_pos c0] at k; exact absurd k c0
  rw [if_neg (by simp [c0])] at k
  by_cases c1 : 65535 < qs.length ∨ 65535 < r1.length ∨ 65535 < r2.length ∨ 65535 < r3.length
  · rw [if_pos c1] at k; cases k
  rw [if_neg c1] at k
  by_cases c2 : firstE qE qs = 0
  case neg => rw [if_pos c2] at k; exact absurd k c2
  rw [if_neg (by simp [c2])] at k
  by_cases c3 : firstE rE (r1 ++ r2 ++ r3) = 0
  case neg => rw [if_pos c3] at k; exact absurd k c3
  rw [if_neg (fun q => q c3)] at k
  by_cases c4 : 65535 < (endS h qs r1 r2 r3).1.length
  · rw [if_pos c4] at k; cases k
  exact ⟨hdE_of c0, by omega, firstE_all c2, firstE_all c3, by omega⟩

theorem ahead_pairs (h : Hd) (l0 l1 l2 l3 : Nat) (h0 : l0 ≤ 65535) (h1 : l1 ≤ 65535) (h2 : l2 ≤ 65535) (h3 : l3 ≤ 65535) (more : List Int) :
    pairN (aheadN h l0 l1 l2 l3 ++ more) 4 = l0 ∧ pairN (aheadN h l0 l1 l2 l3 ++ more) 6 = l1 ∧ pairN (aheadN h l0 l1 l2 l3 ++ more) 8 = l2 ∧ pairN (aheadN h l0 l1 l2 l3 ++ more) 10 = l3 := by
  simp only [pairN, aheadN, hdB, headN, twoN, List.cons_append, List.nil_append, List.getD_cons_succ, List.getD_cons_zero]
  omega

theorem end_form (h : Hd) (qs : List Qn) (r1 r2 r3 : List Rn) : ∃ more, (endS h qs r1 r2 r3).1 = aheadN h qs.length r1.length r2.length r3.length ++ more := by
  obtain ⟨m1, e1⟩ := fold_q qs (aheadN h qs.length r1.length r2.length r3.length, [])
  obtain ⟨m2, e2⟩ := fold_r (r1 ++ r2 ++ r3) (qs.foldl stepQ (aheadN h qs.length r1.length r2.length r3.length, []))
  refine ⟨m1 ++ m2, ?_⟩
  unfold endS
  rw [e2, e1, List.append_assoc]

/-- What is sent is read. -/
theorem msg_back {h : Hd} {qs : List Qn} {r1 r2 r3 : List Rn} (k : msgE h qs r1 r2 r3 = 0) (hD : ∀ r ∈ r1 ++ r2 ++ r3, ∀ b ∈ r.D, 0 ≤ b ∧ b ≤ 255) :
    msgR (endS h qs r1 r2 r3).1 = (0, qs, r1, r2, r3) ∧ hdR (endS h qs r1 r2 r3).1 = h ∧ (∀ b ∈ (endS h qs r1 r2 r3).1, 0 ≤ b ∧ b ≤ 255) := by
  obtain ⟨hh, ⟨l0, l1, l2, l3⟩, hq, hr, _⟩ := msgE_zero k
  have g0 := good_start hh qs.length r1.length r2.length r3.length
  have g1 := good_qs g0 hq
  have g2 := good_rs g1 hr hD
  obtain ⟨more, ef⟩ := end_form h qs r1 r2 r3
  obtain ⟨m2, e2⟩ := fold_r (r1 ++ r2 ++ r3) (qs.foldl stepQ (aheadN h qs.length r1.length r2.length r3.length, []))
  have pq := back_q qs (aheadN h qs.length r1.length r2.length r3.length, []) m2 g0 hq
  rw [← e2] at pq
  have pr := back_r (r1 ++ r2 ++ r3) (qs.foldl stepQ (aheadN h qs.length r1.length r2.length r3.length, [])) [] g1 hr hD
  rw [List.append_nil] at pr
  have hF : ((r1 ++ r2 ++ r3).foldl stepR (qs.foldl stepQ (aheadN h qs.length r1.length r2.length r3.length, []))).1 = (endS h qs r1 r2 r3).1 := rfl
  rw [hF] at pq pr
  obtain ⟨b2, p12, p3⟩ := parts_split pr
  obtain ⟨b1, p1, p2⟩ := parts_split p12
  obtain ⟨n0, n1, n2, n3⟩ := ahead_pairs h qs.length r1.length r2.length r3.length l0 l1 l2 l3 more
  rw [← ef] at n0 n1 n2 n3
  have q0 : partsN (readQ (endS h qs r1 r2 r3).1) (pairN (endS h qs r1 r2 r3).1 4) 12 = (0, qs, (qs.foldl stepQ (aheadN h qs.length r1.length r2.length r3.length, [])).1.length) := by rw [n0]; exact parts_of pq
  have q1 : partsN (readR (endS h qs r1 r2 r3).1) (pairN (endS h qs r1 r2 r3).1 6) (qs.foldl stepQ (aheadN h qs.length r1.length r2.length r3.length, [])).1.length = (0, r1, b1) := by rw [n1]; exact parts_of p1
  have q2 : partsN (readR (endS h qs r1 r2 r3).1) (pairN (endS h qs r1 r2 r3).1 8) b1 = (0, r2, b2) := by rw [n2]; exact parts_of p2
  have q3 : partsN (readR (endS h qs r1 r2 r3).1) (pairN (endS h qs r1 r2 r3).1 10) b2 = (0, r3, (endS h qs r1 r2 r3).1.length) := by rw [n3]; exact parts_of p3
  refine ⟨?_, ?_, g2.1⟩
  · rw [msgR_4 (by rw [ef, List.length_append, ahead_len]; omega) q0 q1 q2 q3, if_neg (Nat.lt_irrefl _)]
  · rw [ef]
    unfold aheadN
    rw [List.append_assoc, List.append_assoc, List.append_assoc, List.append_assoc]
    exact hdR_of hh _

theorem num_cut_two {ms : List Int} (hb : ∀ b ∈ ms, 0 ≤ b ∧ b ≤ 255) {i : Nat} (h : i + 2 ≤ ms.length) : 0 ≤ numN (Nm.cut ms i 2) ∧ numN (Nm.cut ms i 2) ≤ 65535 := by
  rw [num_cut2 h]
  have g0 := getD_byte hb i
  have g1 := getD_byte hb (i + 1)
  omega

theorem num_cut_four {ms : List Int} (hb : ∀ b ∈ ms, 0 ≤ b ∧ b ≤ 255) {i : Nat} (h : i + 4 ≤ ms.length) : 0 ≤ numN (Nm.cut ms i 4) ∧ numN (Nm.cut ms i 4) ≤ 4294967295 := by
  rw [num_cut4 h]
  have g0 := getD_byte hb i
  have g1 := getD_byte hb (i + 1)
  have g2 := getD_byte hb (i + 2)
  have g3 := getD_byte hb (i + 3)
  omega

theorem readQ_may {ms : List Int} (hb : ∀ b ∈ ms, 0 ≤ b ∧ b ≤ 255) {a n : Nat} {q : Qn} (h : readQ ms a = (0, q, n)) : qE q = 0 := by
  obtain ⟨L, m, h1, h2, _, rfl⟩ := readQ_ok h
  obtain ⟨_, _, _, c, d⟩ := readW_may hb h1
  unfold qE
  rw [map_bs_of L d, if_neg (by simp [c]), if_neg]
  simp only [Decidable.not_not]
  exact ⟨num_cut_two hb (by omega), num_cut_two hb (by omega)⟩

theorem readR_may {ms : List Int} (hb : ∀ b ∈ ms, 0 ≤ b ∧ b ≤ 255) {a n : Nat} {r : Rn} (h : readR ms a = (0, r, n)) : rE r = 0 ∧ ∀ b ∈ r.D, 0 ≤ b ∧ b ≤ 255 := by
  obtain ⟨L, m, h1, h2, h3, rfl⟩ := readR_ok h
  obtain ⟨_, _, _, c, d⟩ := readW_may hb (recW_ok h1).1
  refine ⟨?_, fun b q => hb b ?_⟩
  · unfold rE recE
    have hp := pair_le hb (m + 8)
    rw [map_bs_of L d, if_neg (by simp [c]), if_neg, if_neg]
    · rw [Nm.cut_length (by omega)]; omega
    · simp only [Decidable.not_not]
      exact ⟨num_cut_two hb (by omega), num_cut_two hb (by omega), num_cut_four hb (by omega)⟩
  · unfold Nm.cut at q
    exact List.mem_of_mem_drop (List.mem_of_mem_take q)

theorem parts_all {α : Type} {f : Nat → Int × α × Nat} {P : α → Prop} (hf : ∀ a x n, f a = (0, x, n) → P x) : ∀ {xs : List α} {a e : Nat}, Parts f a xs e → ∀ x ∈ xs, P x := by
  intro xs
  induction xs with
  | nil => intro a e _ x hx; simp at hx
  | cons y ys ih =>
    intro a e h x hx
    obtain ⟨n, h1, h2⟩ := h
    rcases List.mem_cons.1 hx with q | q
    · rw [q]; exact hf _ _ _ h1
    · exact ih h2 x q

/-- What is read can be sent, if it is not too long. -/
theorem read_sent {ms : List Int} (hb : ∀ b ∈ ms, 0 ≤ b ∧ b ≤ 255) {qs : List Qn} {r1 r2 r3 : List Rn} (h : msgR ms = (0, qs, r1, r2, r3)) :
    (msgE (hdR ms) qs r1 r2 r3 = 0 ∨ msgE (hdR ms) qs r1 r2 r3 = 7) ∧ ∀ r ∈ r1 ++ r2 ++ r3, ∀ b ∈ r.D, 0 ≤ b ∧ b ≤ 255 := by
  obtain ⟨h12, a0, a1, a2, e0, e1, e2, e3, f0, f1, f2⟩ := msgR_ok hb h
  obtain ⟨l0, p0⟩ := parts_ok e0
  obtain ⟨l1, p1⟩ := parts_ok e1
  obtain ⟨l2, p2⟩ := parts_ok e2
  obtain ⟨l3, p3⟩ := parts_ok e3
  have z0 := pair_le hb 4
  have z1 := pair_le hb 6
  have z2 := pair_le hb 8
  have z3 := pair_le hb 10
  have hq : ∀ q ∈ qs, qE q = 0 := parts_all (fun a x n k => readQ_may hb k) p0
  have k1 := parts_all (P := fun r => rE r = 0 ∧ ∀ b ∈ r.D, 0 ≤ b ∧ b ≤ 255) (fun a x n k => readR_may hb k) p1
  have k2 := parts_all (P := fun r => rE r = 0 ∧ ∀ b ∈ r.D, 0 ≤ b ∧ b ≤ 255) (fun a x n k => readR_may hb k) p2
  have k3 := parts_all (P := fun r => rE r = 0 ∧ ∀ b ∈ r.D, 0 ≤ b ∧ b ≤ 255) (fun a x n k => readR_may hb k) p3
  have hr : ∀ r ∈ r1 ++ r2 ++ r3, rE r = 0 ∧ ∀ b ∈ r.D, 0 ≤ b ∧ b ≤ 255 := by
    intro r hr
    simp only [List.mem_append] at hr
    rcases hr with (hr | hr) | hr
    · exact k1 r hr
    · exact k2 r hr
    · exact k3 r hr
  refine ⟨?_, fun r q => (hr r q).2⟩
  unfold msgE
  rw [hdE_ok (hdB_of hb (by omega)).2, if_neg (by simp), if_neg (by omega), firstE_zero hq, if_neg (by simp), firstE_zero (fun r q => (hr r q).1), if_neg (by simp)]
  by_cases c : 65535 < (endS (hdR ms) qs r1 r2 r3).1.length
  · rw [if_pos c]; exact Or.inr rfl
  · rw [if_neg c]; exact Or.inl rfl

end Go.Proofs.YtbbgabdiikdjpaaDoor

namespace Go.Proofs.YtbbgabdiikdjpaaDoor
open Go.RowKit Go.Deep

/-- The options that bytes are. -/
def parseO (D : List Int) : Option (List On) := optsN D.length D

theorem optsN_fuel : ∀ (f : Nat) (D : List Int), D.length ≤ f → optsN f D = optsN D.length D := by
  intro f
  induction f using Nat.strongRecOn with
  | _ f ih =>
    intro D hD
    cases D with
    | nil => cases f <;> rfl
    | cons b ms =>
      cases f with
      | zero => simp at hD
      | succ f =>
        have h1 : (b :: ms).length = ms.length + 1 := rfl
        rw [h1, optsN_step (by simp), optsN_step (by simp)]
        by_cases c1 : (b :: ms).length < 4
        · rw [if_pos c1, if_pos c1]
        · rw [if_neg c1, if_neg c1]
          by_cases c2 : (b :: ms).length < 4 + (numN (Nm.cut (b :: ms) 2 2)).toNat
          · rw [if_pos c2, if_pos c2]
          · rw [if_neg c2, if_neg c2]
            have hl : ((b :: ms).drop (4 + (numN (Nm.cut (b :: ms) 2 2)).toNat)).length ≤ ms.length := by rw [List.length_drop]; omega
            rw [ih f (by omega) _ (by omega)]
            by_cases c3 : ms.length = f
            · rw [c3, ih f (by omega) _ (by omega)]
            · rw [ih ms.length (by omega) _ hl]

theorem parseO_nil : parseO [] = some [] := rfl
/-- One option read. -/
theorem parseO_step {D : List Int} (h : D ≠ []) : parseO D = if D.length < 4 then none else if D.length < 4 + (numN (Nm.cut D 2 2)).toNat then none else (parseO (D.drop (4 + (numN (Nm.cut D 2 2)).toNat))).map (fun os => ⟨numN (Nm.cut D 0 2), Nm.cut D 4 (numN (Nm.cut D 2 2)).toNat⟩ :: os) := by
  unfold parseO
  cases D with
  | nil => exact absurd rfl h
  | cons b ms =>
    have h1 : (b :: ms).length = ms.length + 1 := rfl
    conv => lhs; rw [h1, optsN_step (by simp)]
    by_cases c1 : (b :: ms).length < 4
    · rw [if_pos c1, if_pos c1]
    · rw [if_neg c1, if_neg c1]
      by_cases c2 : (b :: ms).length < 4 + (numN (Nm.cut (b :: ms) 2 2)).toNat
      · rw [if_pos c2, if_pos c2]
      · rw [if_neg c2, if_neg c2, optsN_fuel ms.length _ (by rw [List.length_drop]; omega)]
theorem parseO_of {os : List On} (h : optE os = 0) : parseO (optB os) = some os := by
  refine optsN_of os h _ ?_
  rw [optB_len]
  clear h
  induction os with
  | nil => simp
  | cons o os ih => simp only [optSize, List.length_cons]; omega
theorem parseO_len : ∀ {D : List Int} {os : List On}, parseO D = some os → os.length ≤ D.length := by
  have key : ∀ (f : Nat) (D : List Int) (os : List On), optsN f D = some os → os.length ≤ D.length := by
    intro f
    induction f with
    | zero => intro D os h; cases D with | nil => (unfold optsN at h; cases h; simp) | cons b ms => (unfold optsN at h; cases h)
    | succ f ih =>
      intro D os h
      cases D with
      | nil => unfold optsN at h; cases h; simp
      | cons b ms =>
        rw [optsN_step (by simp)] at h
        by_cases c1 : (b :: ms).length < 4
        · rw [if_pos c1] at h; cases h
        rw [if_neg c1] at h
        by_cases c2 : (b :: ms).length < 4 + (numN (Nm.cut (b :: ms) 2 2)).toNat
        · rw [if_pos c2] at h; cases h
        rw [if_neg c2] at h
        obtain ⟨os', h1, rfl⟩ := Option.map_eq_some_iff.1 h
        have := ih _ _ h1
        rw [List.length_drop] at this
        simp only [List.length_cons] at this ⊢
        omega
  intro D os h; exact key _ _ _ h

def ocells (e : On × Option Addr × Nat) : List Value := [.int .i64 e.1.code, .slice e.2.1 e.1.D.length e.2.2]

/-- A row of options of the call's own. -/
def ORow (w : World) (B : Nat) (v : Value) (os : List On) : Prop :=
  ∃ L : List (On × Option Addr × Nat), L.map (·.1) = os ∧ w.ownsRow B 106 2 v L.length (L.flatMap ocells) ∧
    ∀ e ∈ L, Bys w e.2.1 e.2.2 e.1.D ∧ (e.2.1 = none → e.2.2 = 0) ∧ ∀ a, e.2.1 = some a → B ≤ a.block ∧ (e.1.D = [] ∨ some a.block ≠ v.ownBlock)

theorem ORow.nil (w : World) (B : Nat) : ORow w B (.slice none 0 0) [] := ⟨[], rfl, World.ownsRow_nil _ _ _ _, fun e he => by simp at he⟩
theorem ORow.below {w w' : World} {B : Nat} {v : Value} {os : List On} (h : ORow w B v os) (k : Below w.heap.size w w') : ORow w' B v os := by
  obtain ⟨L, h1, h2, h3⟩ := h
  exact ⟨L, h1, owns_stay h2 k, fun e he => ⟨(h3 e he).1.below k, (h3 e he).2⟩⟩

theorem info_of_option : ∃ i0, Tryd.prog.info? 106 = some i0 ∧ i0.zero = some (.agg #[.int .i64 0, .slice none 0 0]) ∧ i0.size = 2 ∧ i0.bytes = 32 := by
  have h : (Tryd.prog.info? 106).map (fun i => (i.zero, i.size, i.bytes)) = some (some (.agg #[.int .i64 0, .slice none 0 0]), 2, 32) := by kernel_rfl
  obtain ⟨i, hi, hz⟩ := Option.map_eq_some_iff.1 h
  simp only [Prod.mk.injEq] at hz
  exact ⟨i, hi, hz.1, hz.2.1, hz.2.2⟩

theorem ocells_len (L : List (On × Option Addr × Nat)) : (L.flatMap ocells).length = L.length * 2 := by
  induction L with
  | nil => rfl
  | cons e L ih => simp [ocells, ih]; omega
theorem ocells_at {L : List (On × Option Addr × Nat)} {i : Nat} (hi : i < L.length) : (L.flatMap ocells)[i * 2]? = some (.int .i64 L[i].1.code) ∧ (L.flatMap ocells)[i * 2 + 1]? = some (.slice L[i].2.1 L[i].1.D.length L[i].2.2) := by
  induction L generalizing i with
  | nil => simp at hi
  | cons e L ih =>
    cases i with
    | zero => simp [ocells]
    | succ i =>
      have hi' : i < L.length := by simpa using hi
      have := ih hi'
      rw [List.flatMap_cons]
      have e1 : (ocells e).length = 2 := rfl
      rw [List.getElem?_append_right (by rw [e1]; omega), List.getElem?_append_right (by rw [e1]; omega), e1, show (i + 1) * 2 - 2 = i * 2 by omega, show (i + 1) * 2 + 1 - 2 = i * 2 + 1 by omega]
      simpa using this

/-- An option appended. -/
theorem wp_append_orow {w : World} {B g cc : Nat} {v : Value} {os : List On} {r : On} {z : Option Addr} {t : Nat} {o : Oper} {a : Act} {K : Act → World → Prop} {Q : Exit → Act → World → Prop} (sl x : Operand)
    (ho : o.op = .call { callee := .builtin .append, args := #[sl, x], argTypes := #[44, 44] }) (hs : a.eval sl = v) (hx : a.eval x = .slice (some ⟨g, 0, none⟩) 1 cc) (hr : ORow w B v os) (hk : Bl 106 w g #[.int .i64 r.code, .slice z r.D.length t])
    (h2 : Bys w z t r.D) (h3 : z = none → t = 0) (h5 : ∀ a, z = some a → B ≤ a.block ∧ (r.D = [] ∨ some a.block ≠ v.ownBlock)) (hl : os.length ≤ 1000000000000) (hB : B ≤ w.heap.size)
    (hK : ∀ v' w', ORow w' B v' (os ++ [r]) → w.grownBy w' v.ownBlock → K (a.put o.dst v') w') : o.wp Tryd.prog a w K Q := by
  obtain ⟨i0, hi, hz0, hz1, hz2⟩ := info_of_option
  obtain ⟨L, hL, hown, hin⟩ := hr
  have hLl : L.length = os.length := by rw [← hL, List.length_map]
  obtain ⟨v1, w2, hrun, hown1, hgrow1, _, hloc⟩ := run_append_own_at (P := Tryd.prog) w B 44 o.type 106 i0 (.agg #[.int .i64 0, .slice none 0 0]) 2 32 Tryd.underlying44 hi hz0 hz1 hz2 rfl (by decide) v L.length (L.flatMap ocells) hown ⟨g, 0, none⟩ 1 cc [.int .i64 r.code, .slice z r.D.length t] rfl
    (fun j u hj => by
      rw [Go.WideShapes.add_plain, Nat.zero_add]
      exact hk.cell (i := j) (by rw [List.getElem?_toArray]; exact hj)) (by intro u hu; simp at hu; rcases hu with rfl | rfl <;> rfl) (by unfold maxLen; omega) (by omega) hB
  unfold Oper.wp execOp
  simp only [ho, resolve, invoke, builtin, Sem.run_bind, Sem.run_pure, Result.andThen_ok, List.map_toArray, List.map_cons, List.map_nil, hs, hx, hrun]
  refine hK v1 w2 ?_ hgrow1
  have hne : ∀ k, k < w.heap.size → some k ≠ v.ownBlock → some k ≠ v1.ownBlock := by
    intro k h1 h2 q
    rcases hloc with e | e
    · rw [e] at q; exact h2 q
    · rw [e] at q; cases q; omega
  have hlt : ∀ {y : Option Addr} {c : Nat} {D : List Int}, Bys w y c D → ∀ a, y = some a → D = [] ∨ a.block < w.heap.size := by
    intro y c D hb a ha
    rcases hb.2.2.2 with q | ⟨b, off, hx, hb', _⟩
    · exact Or.inl q
    · rw [hx] at ha; cases ha; exact Or.inr hb'
  refine ⟨L ++ [(r, z, t)], by rw [List.map_append, hL]; rfl, ?_, fun e he => ?_⟩
  · rw [List.length_append, List.flatMap_append, List.flatMap_cons, List.flatMap_nil, List.append_nil]
    exact hown1
  · rcases List.mem_append.1 he with he | he
    · obtain ⟨k3, k4, k5⟩ := hin e he
      refine ⟨k3.kept hgrow1 (fun a ha => (k5 a ha).2), k4, fun a ha => ⟨(k5 a ha).1, ?_⟩⟩
      rcases (k5 a ha).2 with q | q
      · exact Or.inl q
      · exact (hlt k3 a ha).imp_right (fun l => hne _ l q)
    · rw [List.mem_singleton.1 he]
      refine ⟨h2.kept hgrow1 (fun a ha => (h5 a ha).2), h3, fun a ha => ⟨(h5 a ha).1, ?_⟩⟩
      rcases (h5 a ha).2 with q | q
      · exact Or.inl q
      · exact (hlt h2 a ha).imp_right (fun l => hne _ l q)

theorem orow_ops {w : World} {B : Nat} {v : Value} {os : List On} (h : ORow w B v os) (hl : os.length ≤ 5000000000000) : ∃ x c, v = .slice x os.length c ∧ Ops w B x c os := by
  obtain ⟨L, hL, hown, hin⟩ := h
  have hLl : L.length = os.length := by rw [← hL, List.length_map]
  obtain ⟨_, h3⟩ := hown
  rcases h3 with ⟨rfl, h4⟩ | ⟨g, cap, cur, rfl, hgB, hh, hn, _, hs, ht⟩
  · have : os = [] := List.length_eq_zero_iff.1 (by omega)
    subst this
    exact ⟨none, 0, rfl, Ops.nil w B none 0⟩
  · refine ⟨_, cap, by rw [hLl], by omega, hl, Or.inr ⟨g, 0, rfl, ?_, hgB, fun i hi => ?_⟩⟩
    · rcases Nat.lt_or_ge g w.heap.size with q | q
      · exact q
      · rw [Array.getElem?_eq_none q] at hh; simp at hh
    · have hi' : i < L.length := by omega
      obtain ⟨e1, e2⟩ := ocells_at hi'
      have hoi : os[i] = L[i].1 := by simp [← hL]
      rw [hoi]
      obtain ⟨k3, k4, k5⟩ := hin L[i] (List.getElem_mem hi')
      have ec : ∀ j, j < L.length * 2 → w.cell? ⟨g, 0 + j, none⟩ = (L.flatMap ocells)[j]? := by
        intro j hj
        rw [Nat.zero_add]
        simp only [World.cell?, hh]
        rw [← ht, List.getElem?_take, if_pos hj]
        simp
      refine ⟨L[i].2.1, L[i].2.2, ?_, ?_, k3, k4, fun a ha => (k5 a ha).1⟩
      · rw [ec _ (by omega), e1]
      · rw [show 0 + i * 2 + 1 = 0 + (i * 2 + 1) by omega, ec _ (by omega), e2]

/-- What optionsOf answers. -/
def OptsP (D : List Int) (w : World) (e : Ending) (w' : World) : Prop :=
  (parseO D = none ∧ e = .returned (.tuple #[.slice none 0 0, .iface 29 (.int .i64 1)]) ∧ Below w.heap.size w w') ∨
  (∃ os x c, parseO D = some os ∧ e = .returned (.tuple #[.slice x os.length c, .nilIface]) ∧ Ops w' w.heap.size x c os ∧ Below w.heap.size w w')

/-- Where the loop of optionsOf is: these bytes are left, these options are read. -/
def OState (D ms : List Int) (acc : List On) : Prop := parseO D = (parseO ms).map (acc ++ ·)
theorem ostate_start (D : List Int) : OState D D [] := by unfold OState; cases parseO D <;> simp
theorem ostate_short {D ms : List Int} {acc : List On} (h : OState D ms acc) (h0 : ms ≠ []) (h1 : ms.length < 4) : parseO D = none := by
  unfold OState at h; rw [h, parseO_step h0, if_pos h1]; rfl
theorem ostate_torn {D ms : List Int} {acc : List On} {N : Nat} (h : OState D ms acc) (h0 : ms ≠ []) (h1 : ¬ ms.length < 4) (hN : (numN (Nm.cut ms 2 2)).toNat = N) (h2 : ms.length < 4 + N) : parseO D = none := by
  subst hN; unfold OState at h; rw [h, parseO_step h0, if_neg h1, if_pos h2]; rfl
theorem ostate_next {D ms : List Int} {acc : List On} {N : Nat} (h : OState D ms acc) (h0 : ms ≠ []) (h1 : ¬ ms.length < 4) (hN : (numN (Nm.cut ms 2 2)).toNat = N) (h2 : ¬ ms.length < 4 + N) : OState D (ms.drop (4 + N)) (acc ++ [⟨numN (Nm.cut ms 0 2), Nm.cut ms 4 N⟩]) := by
  subst hN; unfold OState at h ⊢
  rw [h, parseO_step h0, if_neg h1, if_neg h2]
  cases parseO (ms.drop (4 + (numN (Nm.cut ms 2 2)).toNat)) <;> simp
theorem ostate_done {D : List Int} {acc : List On} (h : OState D [] acc) : parseO D = some acc := by
  unfold OState at h; rw [h, parseO_nil]; simp

/-- A slice's length. -/
def lenV : Value → Nat
  | .slice _ l _ => l
  | _ => 0

/-- A row of bytes, piece by piece: nothing left, or cells of a block. -/
theorem bys_drop {w : World} {b off c : Nat} {ms : List Int} (h : Bys w (some ⟨b, off, none⟩) c ms) {k : Nat} (hk : k ≤ ms.length) (hne : ms ≠ []) : Bys w (some ⟨b, off + k, none⟩) (c - k) (ms.drop k) := by
  obtain ⟨h1, h2, h3, h4⟩ := h
  refine ⟨by rw [List.length_drop]; omega, by rw [List.length_drop]; omega, fun x hx => h3 x (List.mem_of_mem_drop hx), ?_⟩
  rcases h4 with h4 | ⟨b', off', e, hb, hc⟩
  · exact absurd h4 hne
  · cases e
    refine Or.inr ⟨b, off + k, rfl, hb, fun i hi => ?_⟩
    rw [List.length_drop] at hi
    rw [show off + k + i = off + (k + i) by omega, hc (k + i) (by omega)]
    simp [List.getD_eq_getElem?_getD, List.getElem?_drop]

theorem wp_append_copy {w : World} {o : Oper} {a : Act} {K : Act → World → Prop} {Q : Exit → Act → World → Prop} (hgd : o.guard = none) (x : Operand)
    (ho : o.op = .call { callee := .builtin .append, args := #[.const (.slice none 0 0), x], argTypes := #[22, 22] }) (ad : Addr) (m c : Nat) (D : List Int) (hm : D.length = m) (hx : a.eval x = .slice (some ad) m c)
    (hn : ∀ j u, (D.map (Value.int .u8))[j]? = some u → w.cell? (ad.add j) = some u) (hl : D.length ≤ 200000000000000) (hb : ∀ b ∈ D, 0 ≤ b ∧ b ≤ 255)
    (h : ∀ z r w', Bys w' z r D → (z = none → r = 0) → (∀ p, z = some p → w.heap.size ≤ p.block) → Below w.heap.size w w' → K (a.put o.dst (.slice z m r)) w') : o.wp Tryd.prog a w K Q := by
  have := step_append_copy (ops := #[]) (E := True) (Q := Q) hgd x ho ad m c D hm hx hn hl hb h
  rwa [if_pos (by simp [Region.wanted, hgd])] at this

set_option maxHeartbeats 8000000 in
set_option maxRecDepth 100000 in
theorem optionsOf_any {x : Option Addr} {c l : Nat} (D : List Int) (w : World) (h : Bys w x c D) (hl : D.length = l) (hD : D.length ≤ 100000000) :
    Calls Tryd.prog 70 #[.slice x l c] w (OptsP D w) := by
  subst hl
  go_enter Tryd.func70, Tryd.ntmps70
  go_wp2_with fail
  go_loopw [0, 4] (fun vb vo wr => ∃ (y : Option Addr) (cy : Nat) (ms : List Int) (acc : List On), vb = .slice y ms.length cy ∧ Bys w y cy ms ∧ ms.length ≤ 100000000 ∧ acc.length + ms.length ≤ 100000000 ∧ OState D ms acc ∧ ORow wr w.heap.size vo acc ∧ Below w.heap.size w wr) (fun vb _ _ => lenV vb)
  case atStart => exact ⟨x, c, D, [], rfl, h, hD, by simpa using hD, ostate_start D, ORow.nil _ _, Below.refl _ _⟩
  case round =>
    obtain ⟨y, cy, ms, acc, rfl, hy, hml, hal, hst, hrow, hbel⟩ := hrel
    by_cases c0 : ms = []
    · subst c0
      have hp := ostate_done hst
      obtain ⟨z, cz, rfl, hz⟩ := orow_ops hrow (by simp at hal; omega)
      have HP := hid hp
      clear hp hst hrow
      go_wp2_with fail
      go_ret2
      exact Or.inr ⟨acc, z, cz, HP.out, rfl, hz, hbel⟩
    · have hpos : 0 < ms.length := by cases ms with | nil => exact absurd rfl c0 | cons => simp
      have i0 : (0 : Int) < (ms.length : Int) := by omega
      have HST := hid hst
      have HROW := hid hrow
      have HB := hid hbel
      have HNE := hid c0
      by_cases c1 : ms.length < 4
      · have i1 : (ms.length : Int) < 4 := by omega
        have hp := hid (ostate_short hst c0 c1)
        clear hst hrow c0 hbel
        go_wp2_with fail
        go_ret2
        exact Or.inl ⟨hp.out, rfl, HB.out⟩
      · have i1 : ¬ (ms.length : Int) < 4 := by omega
        rcases hy.2.2.2 with e | ⟨b, off, rfl, hblt, hq⟩
        · exact absurd e c0
        have hcap : ms.length ≤ cy := hy.1
        have hcl : cy ≥ 4 := by omega
        obtain ⟨n1, n2⟩ := num_cut_two hy.2.2.1 (i := 2) (by omega : 2 + 2 ≤ ms.length)
        obtain ⟨N, hN⟩ : ∃ N : Nat, (numN (Nm.cut ms 2 2)).toNat = N := ⟨_, rfl⟩
        have hN2 : numN (Nm.cut ms 2 2) = (N : Int) := by omega
        have hNb : N ≤ 65535 := by omega
        have P2 := hid ((bys_sub hblt hcap (by omega) hy.2.2.1 hq 2 2 (by omega)).below hbel)
        have HY := hid hy
        have HN2 := hid hN2
        clear hN2 n1 n2 hst hrow c0 hbel
        go_wp2_with fail
        refine (number_at (N : Int) (Nm.cut ms 2 2) wr P2.out (Nm.cut_length (by omega)) (by rw [Nm.cut_length (by omega)]; decide) HN2.out).mono ?_
        rintro e w1 ⟨rfl, rfl⟩
        by_cases c2 : ms.length < 4 + N
        · have i2 : (ms.length : Int) < 4 + (N : Int) := by omega
          have hp := hid (ostate_torn HST.out HNE.out c1 hN c2)
          clear hN
          go_wp2_with fail
          go_ret2
          exact Or.inl ⟨hp.out, rfl, HB.out⟩
        · have i2 : ¬ (ms.length : Int) < 4 + (N : Int) := by omega
          have HNX := hid (ostate_next HST.out HNE.out c1 hN c2)
          clear hN
          have hne : Nonempty (Keep []) := ⟨⟨wr, by simp⟩⟩
          have j1 : (2 : Int) ≤ (cy : Int) := by omega
          have j2 : (4 : Int) + (N : Int) ≤ (cy : Int) := by omega
          have j3 : (4 : Int) ≤ 4 + (N : Int) := by omega
          have j4 : (4 : Int) ≤ (cy : Int) := by omega
          go_wp2_with fail
          refine wp_region_pick [0, 1, 2, 4, 5, 6] [3, 7, 8, 9, 10, 11] (fun u => ∃ s : Keep [], u = s.val) (by kernel_rfl) (by kernel_rfl) (by kernel_rfl) ⟨⟨_, by simp⟩, rfl⟩ ?_
          change wpQuiet _ _ _ _ [_, _, _, _, _, _] _
          repeat (go_big_quiet_step (fail))
          refine wpQuiet_nil ?_
          change rowL _ _ _ 11 [(3, _), (7, _), (8, _), (9, _), (10, _), (11, _)] _ _
          obtain ⟨ad, had, hcells⟩ : ∃ ad, (if cy = 4 then some (⟨b, off, none⟩ : Addr) else some ⟨b, off + 4, none⟩) = some ad ∧ ∀ j u, ((Nm.cut ms 4 N).map (Value.int .u8))[j]? = some u → wr.cell? (ad.add j) = some u := by
            have hc := bys_sub hblt hcap (by omega) HY.out.2.2.1 hq 4 N (by omega)
            by_cases c4 : cy = 4
            · refine ⟨_, if_pos c4, fun j u hj => ?_⟩
              have : N = 0 := by omega
              subst this
              simp [Nm.cut] at hj
            · refine ⟨_, if_neg c4, fun j u hj => ?_⟩
              have hjl : j < (Nm.cut ms 4 N).length := by
                rcases Nat.lt_or_ge j (Nm.cut ms 4 N).length with q | q
                · exact q
                · rw [List.getElem?_eq_none (by simpa using q)] at hj; cases hj
              rcases (hc.below HB.out |>.2.2.2) with q | ⟨b', o', e, _, hcc⟩
              · rw [q] at hjl; simp at hjl
              · cases e
                rw [Go.WideShapes.add_plain, hcc j hjl]
                rw [List.getElem?_map, List.getElem?_eq_getElem hjl] at hj
                simp only [Option.map_some, Option.some.injEq] at hj
                rw [← hj, List.getD_eq_getElem?_getD, List.getElem?_eq_getElem hjl]
                rfl
          have P1 : Bys wr.drew (some ⟨b, off, none⟩) cy (Nm.cut ms 0 2) := by
            have := ((bys_sub hblt hcap (by omega) HY.out.2.2.1 hq 0 2 (by omega)).below HB.out).below ((Below.refl _ wr).drew)
            simpa using this
          have cutb : ∀ x ∈ Nm.cut ms 4 N, 0 ≤ x ∧ x ≤ 255 := fun x hx => HY.out.2.2.1 x (by unfold Nm.cut at hx; exact List.mem_of_mem_drop (List.mem_of_mem_take hx))
          have cutl : (Nm.cut ms 4 N).length = N := Nm.cut_length (by omega)
          have P1' := hid P1
          have HCE := hid hcells
          have HCB := hid cutb
          have HCL := hid cutl
          have hob : ∀ q, Value.ownBlock _ = some q → q < wr.heap.size := fun q hq' => (World.ownsRow.lt HROW.out.choose_spec.2.1 q hq').2
          have HOB := hid hob
          rw [had]
          clear P1 hcells cutb cutl hob had
          refine rowL_step fun K Q' hK => ?_
          go_simp
          refine (number_at _ (Nm.cut ms 0 2) _ P1'.out (Nm.cut_length (by omega)) (by rw [Nm.cut_length (by omega)]; decide) rfl).mono ?_
          rintro e w2 ⟨rfl, rfl⟩
          refine hK _ _ (fun _ => ⟨⟨_, by simp⟩, rfl⟩) ?_
          clear hK
          refine rowL_step fun K Q' hK => ?_
          refine wp_append_copy rfl (.tmp 28) rfl ad N (cy - 4) (Nm.cut ms 4 N) HCL.out rfl HCE.out (by rw [HCL.out]; omega) HCB.out ?_
          intro z r w2 hz hzr hzf hb2
          refine hK _ _ (fun _ => ⟨⟨_, by simp⟩, rfl⟩) ?_
          clear hK
          refine rowL_step fun K Q' hK => ?_
          go_simp
          refine hK _ _ (fun _ => ⟨⟨_, by simp⟩, rfl⟩) ?_
          clear hK
          refine rowL_step fun K Q' hK => ?_
          go_simp
          refine hK _ _ (fun _ => ⟨⟨_, by simp⟩, rfl⟩) ?_
          clear hK
          have hbw : Below wr.heap.size wr w2 := ((Below.refl wr.heap.size wr).drew).trans hb2
          have hbx : Below wr.heap.size wr (w2.alloc (.cells #[.int .i64 (numN (Nm.cut ms 0 2)), .slice z N r] 106)) := hbw.alloc hbw.size _
          have hby := grown_on HB.out hbx
          have hkb : Bl 106 (w2.alloc (.cells #[.int .i64 (numN (Nm.cut ms 0 2)), .slice z N r] 106)) w2.heap.size #[.int .i64 (numN (Nm.cut ms 0 2)), .slice z (Nm.cut ms 4 N).length r] := by
            rw [HCL.out]; exact Bl.new 106 w2 _
          have hz2 := hz.below ((Below.refl w2.heap.size w2).alloc (Nat.le_refl _) (.cells #[.int .i64 (numN (Nm.cut ms 0 2)), .slice z N r] 106))
          refine rowL_step fun K Q' hK => ?_
          refine wp_append_orow (B := w.heap.size) (g := w2.heap.size) (cc := 1) (os := acc) (r := ⟨numN (Nm.cut ms 0 2), Nm.cut ms 4 N⟩) (z := z) (t := r) (.tmp 22) (.tmp 31) rfl rfl rfl (HROW.out.below hbx) hkb hz2 hzr
            (fun p hp => ⟨Nat.le_trans HB.out.size (hzf p hp), Or.inr (fun q => by have := HOB.out _ q.symm; have := hzf p hp; simp at this; omega)⟩) (by omega) hby.size ?_
          intro v3 w3 hrow3 hg3
          have HR3 := hid hrow3
          have B3 := hid (hby.grown hg3 hby.size (fun k hk => (World.ownsRow.lt (HROW.out.below hbx).choose_spec.2.1 k hk).1))
          refine hK _ _ (fun _ => ⟨⟨_, by simp⟩, rfl⟩) ?_
          clear hK hrow3 hg3 hkb hz2 hz hbw hbx hby hb2 hzf hzr
          refine rowL_step fun K Q' hK => ?_
          go_simp
          refine hK _ _ (fun _ => ⟨⟨_, by simp⟩, rfl⟩) ?_
          clear hK
          refine rowL_nil ?_
          obtain ⟨ad2, cy2, had2, hy2⟩ : ∃ ad2 : Option Addr, ∃ cy2, ((if cy = 4 + N then some (⟨b, off, none⟩ : Addr) else some ⟨b, off + (4 + N), none⟩) = ad2 ∧ cy - (4 + N) = cy2) ∧ Bys w ad2 cy2 (ms.drop (4 + N)) := by
            by_cases c4 : cy = 4 + N
            · refine ⟨_, _, ⟨if_pos c4, rfl⟩, ?_⟩
              rw [List.drop_eq_nil_of_le (by omega)]
              exact Bys.nil w _ _
            · refine ⟨_, _, ⟨if_neg c4, rfl⟩, ?_⟩
              exact bys_drop HY.out (by omega) HNE.out
          have HA2 := hid had2
          have HY2 := hid hy2
          clear had2 hy2
          go_wp2_with fail
          refine ⟨⟨ad2, cy2, ms.drop (4 + N), acc ++ [⟨numN (Nm.cut ms 0 2), Nm.cut ms 4 N⟩], ?_, HY2.out, by rw [List.length_drop]; omega, by rw [List.length_drop, List.length_append, List.length_singleton]; omega, HNX.out, HR3.out, B3.out⟩, ?_⟩
          · rw [HA2.out.1, HA2.out.2, List.length_drop]
          · show ms.length - (4 + N) < ms.length
            omega

end Go.Proofs.YtbbgabdiikdjpaaDoor

namespace Go.Proofs.YtbbgabdiikdjpaaDoor
open Go.RowKit Go.Deep

/-- The record's numbers may be. -/
def RecIn (r : Rn) : Prop := r.N = [] ∧ (0 ≤ r.cl ∧ r.cl ≤ 65535) ∧ (0 ≤ r.ttl ∧ r.ttl ≤ 4294967295)
instance (r : Rn) : Decidable (RecIn r) := by unfold RecIn; infer_instance

/-- What a record tells. -/
def recO (r : Rn) : Option Ot := if RecIn r then (parseO r.D).map (fun os => ⟨r.cl, r.ttl / 16777216, r.ttl / 65536 % 256, decide (r.ttl / 32768 % 2 = 1), r.ttl % 32768, os⟩) else none

theorem recO_out {r : Rn} (h : ¬ RecIn r) : recO r = none := by unfold recO; rw [if_neg h]
theorem recO_torn {r : Rn} (h : parseO r.D = none) : recO r = none := by unfold recO; rw [h]; split <;> rfl
theorem recO_good {r : Rn} {os : List On} (h : RecIn r) (hp : parseO r.D = some os) : recO r = some ⟨r.cl, r.ttl / 16777216, r.ttl / 65536 % 256, decide (r.ttl / 32768 % 2 = 1), r.ttl % 32768, os⟩ := by unfold recO; rw [if_pos h, hp]; rfl

/-- What is put is told. -/
theorem recO_otR {o : Ot} (h : otE o = 0) : recO (otR o) = some o := by
  unfold otE at h
  by_cases c : OtIn o
  · rw [if_neg (by simpa using c)] at h
    have hE : optE o.os = 0 := by
      unfold dataE at h
      by_cases c1 : optE o.os = 0
      · exact c1
      · rw [if_pos c1] at h; exact absurd h c1
    obtain ⟨⟨a1, a2⟩, ⟨a3, a4⟩, ⟨a5, a6⟩, ⟨a7, a8⟩⟩ := c
    have ht : 0 ≤ ttlN o ∧ ttlN o ≤ 4294967295 := by unfold ttlN; cases o.dO <;> simp <;> omega
    rw [recO_good (r := otR o) ⟨rfl, ⟨a1, a2⟩, ht⟩ (parseO_of hE)]
    obtain ⟨size, code, ver, dO, z, os⟩ := o
    simp only [otR, ttlN] at *
    congr 1
    have : (if dO = true then (32768 : Int) else 0) = 32768 * (if dO = true then 1 else 0) := by cases dO <;> rfl
    cases dO
    · simp only [Bool.false_eq_true, if_false] at *
      congr 1 <;> first | rfl | omega | (exact decide_eq_false (by omega))
    · simp only [if_true] at *
      congr 1 <;> first | rfl | omega | (exact decide_eq_true (by omega))
  · rw [if_pos c] at h; cases h

theorem results_optof (tmps : Array Value) (w : World) (b : Nat) (v0 v1 v2 v3 v4 v5 : Value) (hp : tmps.getD 2 undef = .pointer (some ⟨b, 0, none⟩)) (hb : Bl 46 w b #[v0, v1, v2, v3, v4, v5]) :
    (results Tryd.f47 tmps).run Tryd.prog w = .ok (.tuple #[.agg #[v0, v1, v2, v3, v4, v5], tmps.getD 3 undef]) w := by
  have c0 : w.cell? ⟨b, 0, none⟩ = some v0 := hb.cell (i := 0) rfl
  have c1 : w.cell? ⟨b, 1, none⟩ = some v1 := hb.cell (i := 1) rfl
  have c2 : w.cell? ⟨b, 2, none⟩ = some v2 := hb.cell (i := 2) rfl
  have c3 : w.cell? ⟨b, 3, none⟩ = some v3 := hb.cell (i := 3) rfl
  have c4 : w.cell? ⟨b, 4, none⟩ = some v4 := hb.cell (i := 4) rfl
  have c5 : w.cell? ⟨b, 5, none⟩ = some v5 := hb.cell (i := 5) rfl
  have hp' : tmps[2]?.getD undef = .pointer (some ⟨b, 0, none⟩) := by simpa using hp
  simp [results, Tryd.results47, go_sem, hp', c0, c1, c2, c3, c4, c5]

/-- What optOf answers. -/
def OptPost (r : Rn) (w : World) (e : Ending) (w' : World) : Prop :=
  (recO r = none ∧ e = .returned (.tuple #[.agg #[.int .i64 0, .int .i64 0, .int .i64 0, .bool false, .int .i64 0, .slice none 0 0], .iface 29 (.int .i64 1)]) ∧ Below w.heap.size w w') ∨
  (∃ o x c, recO r = some o ∧ e = .returned (.tuple #[.agg #[.int .i64 o.size, .int .i64 o.code, .int .i64 o.ver, .bool o.dO, .int .i64 o.z, .slice x o.os.length c], .nilIface]) ∧ Ops w' w.heap.size x c o.os ∧ Below w.heap.size w w')

theorem Bl.put6 {t : TypeId} {w : World} {b : Nat} {u0 u1 u2 u3 u4 u5 : Value} (h : Bl t w b #[u0, u1, u2, u3, u4, u5]) (v0 v1 v2 v3 v4 v5 : Value) :
    Bl t ((((((w.setCell ⟨b, 0, none⟩ v0).setCell ⟨b, 1, none⟩ v1).setCell ⟨b, 2, none⟩ v2).setCell ⟨b, 3, none⟩ v3).setCell ⟨b, 4, none⟩ v4).setCell ⟨b, 5, none⟩ v5) b #[v0, v1, v2, v3, v4, v5] := by
  have h0 := h.set 0 v0
  have h1 : Bl t _ b #[v0, v1, u2, u3, u4, u5] := Bl.set (show Bl t _ b #[v0, u1, u2, u3, u4, u5] from h0) 1 v1
  have h2 : Bl t _ b #[v0, v1, v2, u3, u4, u5] := Bl.set h1 2 v2
  have h3 : Bl t _ b #[v0, v1, v2, v3, u4, u5] := Bl.set h2 3 v3
  have h4 : Bl t _ b #[v0, v1, v2, v3, v4, u5] := Bl.set h3 4 v4
  exact Bl.set h4 5 v5
theorem below_put6 {B : Nat} {w w' : World} {b : Nat} (k : Below B w w') (hb : B ≤ b) (v0 v1 v2 v3 v4 v5 : Value) :
    Below B w ((((((w'.setCell ⟨b, 0, none⟩ v0).setCell ⟨b, 1, none⟩ v1).setCell ⟨b, 2, none⟩ v2).setCell ⟨b, 3, none⟩ v3).setCell ⟨b, 4, none⟩ v4).setCell ⟨b, 5, none⟩ v5) :=
  (below_put5 k hb v0 v1 v2 v3 v4).setCell hb v5
theorem bys_put {w : World} {B : Nat} {x : Option Addr} {c : Nat} {D : List Int} (h : Bys w x c D) (hx : ∀ p, x = some p → B ≤ p.block) {a : Addr} (ha : a.block < B) (v : Value) : Bys (w.setCell a v) x c D := by
  obtain ⟨h1, h2, h3, h4⟩ := h
  refine ⟨h1, h2, h3, ?_⟩
  rcases h4 with h4 | ⟨b, off, rfl, hb, hc⟩
  · exact Or.inl h4
  · have hB := hx _ rfl
    refine Or.inr ⟨b, off, rfl, by have := (KeepsWalks.setCell w a v).size; omega, fun i hi => ?_⟩
    refine (World.cell?_setCell_other w a ⟨b, off + i, none⟩ v (fun e => ?_)).trans (hc i hi)
    rw [e] at ha; simp at ha hB; omega
theorem Ops.put {w : World} {B : Nat} {x : Option Addr} {c : Nat} {os : List On} (h : Ops w B x c os) {a : Addr} (ha : a.block < B) (v : Value) : Ops (w.setCell a v) B x c os := by
  obtain ⟨h1, h2, h3⟩ := h
  refine ⟨h1, h2, ?_⟩
  rcases h3 with h3 | ⟨b, off, hx, hb, hB, hc⟩
  · exact Or.inl h3
  · refine Or.inr ⟨b, off, hx, by have := (KeepsWalks.setCell w a v).size; omega, hB, fun i hi => ?_⟩
    obtain ⟨z, t, q1, q2, q3, q4, q5⟩ := hc i hi
    have ne : ∀ o, a ≠ ⟨b, o, none⟩ := fun o e => by rw [e] at ha; simp at ha; omega
    exact ⟨z, t, (World.cell?_setCell_other w a _ v (ne _)).trans q1, (World.cell?_setCell_other w a _ v (ne _)).trans q2, bys_put q3 q5 ha v, q4, q5⟩
theorem Ops.base {w : World} {B B' : Nat} {x : Option Addr} {c : Nat} {os : List On} (h : Ops w B x c os) (hb : B' ≤ B) : Ops w B' x c os := by
  obtain ⟨h1, h2, h3⟩ := h
  refine ⟨h1, h2, ?_⟩
  rcases h3 with h3 | ⟨b, off, hx, hb', hB, hc⟩
  · exact Or.inl h3
  · refine Or.inr ⟨b, off, hx, hb', by omega, fun i hi => ?_⟩
    obtain ⟨z, t, q1, q2, q3, q4, q5⟩ := hc i hi
    exact ⟨z, t, q1, q2, q3, q4, fun a ha => Nat.le_trans hb (q5 a ha)⟩
theorem Ops.put6 {w : World} {B b : Nat} {x : Option Addr} {c : Nat} {os : List On} (h : Ops w B x c os) (hb : b < B) (v0 v1 v2 v3 v4 v5 : Value) :
    Ops ((((((w.setCell ⟨b, 0, none⟩ v0).setCell ⟨b, 1, none⟩ v1).setCell ⟨b, 2, none⟩ v2).setCell ⟨b, 3, none⟩ v3).setCell ⟨b, 4, none⟩ v4).setCell ⟨b, 5, none⟩ v5) B x c os :=
  (((((h.put hb _).put hb _).put hb _).put hb _).put hb _).put hb _

theorem ttl_masks {t : Int} (h0 : 0 ≤ t) (h1 : t ≤ 4294967295) : bits .and .i64 (t / 65536) 255 = t / 65536 % 256 ∧ bits .and .i64 (t / 32768) 1 = t / 32768 % 2 ∧ bits .and .i64 t 32767 = t % 32768 :=
  ⟨bits_mask .i64 62 (by decide) wrap_i64 8 (by decide) _ (by omega) (by omega), bits_mask .i64 62 (by decide) wrap_i64 1 (by decide) _ (by omega) (by omega), bits_mask .i64 62 (by decide) wrap_i64 15 (by decide) _ (by omega) (by omega)⟩

set_option maxHeartbeats 4000000 in
set_option maxRecDepth 100000 in
theorem optOf_bad {y z : Option Addr} {nN s t : Nat} (r : Rn) (w : World) (hn : r.N.length = nN) (h : ¬ RecIn r) :
    Calls Tryd.prog 47 #[.agg #[.slice y nN s, .int .i64 r.ty, .int .i64 r.cl, .int .i64 r.ttl, .slice z r.D.length t]] w (OptPost r w) := by
  obtain ⟨k1, k2, k3⟩ := Bl.two 67 46 w #[.slice y nN s, .int .i64 r.ty, .int .i64 r.cl, .int .i64 r.ttl, .slice z r.D.length t] #[.int .i64 0, .int .i64 0, .int .i64 0, .bool false, .int .i64 0, .slice none 0 0]
  have K2 := hid k2
  have K3 := hid k3
  clear k1 k2 k3
  have HO := hid (recO_out h)
  rcases Nat.eq_zero_or_pos nN with c0 | c0
  · subst c0
    have e0 : r.N = [] := List.length_eq_zero_iff.1 hn
    clear hn
    by_cases c1 : 0 ≤ r.cl ∧ r.cl ≤ 65535
    · have c2 : ¬ (0 ≤ r.ttl ∧ r.ttl ≤ 4294967295) := fun q => h ⟨e0, c1, q⟩
      clear h e0
      go_enter Tryd.func47, Tryd.ntmps47
      go_wp2_with fail
      refine (rfits_at true r.cl 65535 _ (by simpa using c1)).mono ?_
      rintro e w1 ⟨rfl, rfl⟩
      go_wp2_with fail
      refine (rfits_at false r.ttl 4294967295 _ (by simpa using c2)).mono ?_
      rintro e w1 ⟨rfl, rfl⟩
      go_wp2_with fail
      refine bodyPost_ret (results_optof _ _ (w.heap.size + 1) _ _ _ _ _ _ rfl K2.out) rfl ?_
      exact Or.inl ⟨HO.out, rfl, K3.out⟩
    · clear h e0
      go_enter Tryd.func47, Tryd.ntmps47
      go_wp2_with fail
      refine (rfits_at false r.cl 65535 _ (by simpa using c1)).mono ?_
      rintro e w1 ⟨rfl, rfl⟩
      go_wp2_with fail
      refine bodyPost_ret (results_optof _ _ (w.heap.size + 1) _ _ _ _ _ _ rfl K2.out) rfl ?_
      exact Or.inl ⟨HO.out, rfl, K3.out⟩
  · obtain ⟨q, rfl⟩ : ∃ q, nN = q + 1 := ⟨nN - 1, by omega⟩
    clear h c0 hn
    have p0 : (0 : Int) < (q : Int) + 1 := by omega
    go_enter Tryd.func47, Tryd.ntmps47
    go_wp2_with fail
    refine bodyPost_ret (results_optof _ _ (w.heap.size + 1) _ _ _ _ _ _ rfl K2.out) rfl ?_
    exact Or.inl ⟨HO.out, rfl, K3.out⟩

set_option maxHeartbeats 4000000 in
set_option maxRecDepth 100000 in
theorem optOf_in {y z : Option Addr} {s t : Nat} (r : Rn) (w : World) (h : RecIn r) (hD : Bys w z t r.D) (hl : r.D.length ≤ 100000000) :
    Calls Tryd.prog 47 #[.agg #[.slice y 0 s, .int .i64 r.ty, .int .i64 r.cl, .int .i64 r.ttl, .slice z r.D.length t]] w (OptPost r w) := by
  obtain ⟨k1, k2, k3⟩ := Bl.two 67 46 w #[.slice y 0 s, .int .i64 r.ty, .int .i64 r.cl, .int .i64 r.ttl, .slice z r.D.length t] #[.int .i64 0, .int .i64 0, .int .i64 0, .bool false, .int .i64 0, .slice none 0 0]
  have K1 := hid k1
  have K2 := hid k2
  have K3 := hid k3
  have HD := hid (hD.below k3)
  have HIN := hid h
  obtain ⟨_, c1, c2⟩ := h
  obtain ⟨b1, b2, b3⟩ := ttl_masks c2.1 c2.2
  clear k1 k2 k3 hD
  go_enter Tryd.func47, Tryd.ntmps47
  go_wp2_with fail
  refine (rfits_at true r.cl 65535 _ (by simpa using c1)).mono ?_
  rintro e w1 ⟨rfl, rfl⟩
  go_wp2_with fail
  refine (rfits_at true r.ttl 4294967295 _ (by simpa using c2)).mono ?_
  rintro e w1 ⟨rfl, rfl⟩
  go_wp2_with fail
  refine (optionsOf_any r.D _ HD.out rfl hl).mono ?_
  intro e w2 hpo
  have L2 := K2.out
  have L1 := K1.out
  rcases hpo with ⟨hp, rfl, d2⟩ | ⟨os, x2, c2', hp, rfl, o2, d2⟩
  all_goals
    have HP := hid hp
    have B2 := hid (grown_on K3.out d2)
    replace L2 := L2.below d2
    replace L1 := L1.below d2
    have f0 := L2.frozen 0
    have f1 := L2.frozen 1
    have f2 := L2.frozen 2
    have f3 := L2.frozen 3
    have f4 := L2.frozen 4
    have f5 := L2.frozen 5
    have g0 : w2.cell? ⟨w.heap.size + 1, 0, none⟩ = some (.int .i64 0) := L2.cell (i := 0) rfl
    have g1 : w2.cell? ⟨w.heap.size + 1, 1, none⟩ = some (.int .i64 0) := L2.cell (i := 1) rfl
    have g2 : w2.cell? ⟨w.heap.size + 1, 2, none⟩ = some (.int .i64 0) := L2.cell (i := 2) rfl
    have g3 : w2.cell? ⟨w.heap.size + 1, 3, none⟩ = some (.bool false) := L2.cell (i := 3) rfl
    have g4 : w2.cell? ⟨w.heap.size + 1, 4, none⟩ = some (.int .i64 0) := L2.cell (i := 4) rfl
    have g5 : w2.cell? ⟨w.heap.size + 1, 5, none⟩ = some (.slice none 0 0) := L2.cell (i := 5) rfl
    have e0 : w2.cell? ⟨w.heap.size, 0, none⟩ = some (.slice y 0 s) := L1.cell (i := 0) rfl
    have e1 : w2.cell? ⟨w.heap.size, 1, none⟩ = some (.int .i64 r.ty) := L1.cell (i := 1) rfl
    have e2 : w2.cell? ⟨w.heap.size, 2, none⟩ = some (.int .i64 r.cl) := L1.cell (i := 2) rfl
    have e3 : w2.cell? ⟨w.heap.size, 3, none⟩ = some (.int .i64 r.ttl) := L1.cell (i := 3) rfl
    have L3 := hid L2
    clear L1 L2 hp
  · clear d2
    go_wp2_with fail
    refine bodyPost_ret (results_optof _ _ (w.heap.size + 1) _ _ _ _ _ _ rfl (Bl.put6 L3.out _ _ _ _ _ _)) rfl ?_
    exact Or.inl ⟨recO_torn HP.out, rfl, below_put6 B2.out (by omega) _ _ _ _ _ _⟩
  · have O2 := hid o2
    clear d2 o2
    go_wp2_with fail
    refine bodyPost_ret (results_optof _ _ (w.heap.size + 1) _ _ _ _ _ _ rfl (Bl.put6 L3.out _ _ _ _ _ _)) rfl ?_
    refine Or.inr ⟨_, x2, c2', recO_good HIN.out HP.out, ?_, (Ops.put6 (B := (w.heap.size + 1) + 1) (by have := O2.out; simpa using this) (by omega) _ _ _ _ _ _).base (by omega), below_put6 B2.out (by omega) _ _ _ _ _ _⟩
    have hbq : (r.ttl / 32768 % 2 == 1) = decide (r.ttl / 32768 % 2 = 1) := by by_cases q : r.ttl / 32768 % 2 = 1 <;> simp [q]
    rw [← hbq]
    rfl

theorem optOf_any {y z : Option Addr} {nN s l t : Nat} (r : Rn) (w : World) (hn : r.N.length = nN) (hd : r.D.length = l) (hD : Bys w z t r.D) (hl : r.D.length ≤ 100000000) :
    Calls Tryd.prog 47 #[.agg #[.slice y nN s, .int .i64 r.ty, .int .i64 r.cl, .int .i64 r.ttl, .slice z l t]] w (OptPost r w) := by
  subst hd
  by_cases h : RecIn r
  · have : nN = 0 := by rw [← hn, h.1]; rfl
    subst this
    exact optOf_in r w h hD hl
  · exact optOf_bad r w hn h

end Go.Proofs.YtbbgabdiikdjpaaDoor
