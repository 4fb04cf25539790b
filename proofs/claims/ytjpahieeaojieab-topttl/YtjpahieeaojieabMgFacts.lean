/-
  Plain facts on messages: a beginning alone is too short, bytes behind are too many; how long a message can be; a message without anything.
-/
import Derived.Test.YtjpahieeaojieabMgRead
import Derived.Test.YtjpahieeaojieabMgWrite
namespace Go.Proofs.Ytjpahieeaojieab
open Go.RowKit Go.Deep

theorem getD_take {ms : List Int} {n a : Nat} (h : a < (ms.take n).length) : (ms.take n).getD a 0 = ms.getD a 0 := by
  rw [List.length_take] at h
  rw [List.getD_eq_getElem?_getD, List.getD_eq_getElem?_getD, List.getElem?_take_of_lt (by omega)]

theorem cut_take {ms : List Int} {n a k : Nat} (h : a + k ≤ (ms.take n).length) : Nm.cut (ms.take n) a k = Nm.cut ms a k := by
  rw [List.length_take] at h
  unfold Nm.cut
  rw [List.drop_take, List.take_take, Nat.min_eq_left (by omega)]

theorem rd_torn (ms : List Int) (n : Nat) : ∀ (f a low size : Nat) (L : List (List Int)) (e : Nat), Nm.rd ms f a low size = (0, L, e) → Nm.rd (ms.take n) f a low size = (0, L, e) ∨ (Nm.rd (ms.take n) f a low size).1 = 2 := by
  intro f
  induction f with
  | zero => intro a low size L e h; exact absurd h Nm.rd_zero
  | succ f ih =>
    intro a low size L e h
    by_cases c1 : (ms.take n).length ≤ a
    · right; unfold Nm.rd; rw [if_pos c1]
    have e1 := getD_take (ms := ms) (n := n) (a := a) (by omega)
    rcases Nm.rd_cases h with ⟨h1, h2, rfl, rfl⟩ | ⟨h1, h2, h3, h4, rfl, e', h5⟩ | ⟨h1, h2, h3, h4, h5, M, rfl, h6⟩
    · left; exact Nm.rd_end (by omega) (by rw [e1]; exact h2)
    · by_cases c2 : (ms.take n).length ≤ a + 1
      · right; unfold Nm.rd; rw [if_neg c1, if_neg (by rw [e1]; exact h2), if_pos (by rw [e1]; exact h3), if_pos c2]
      · have e2 : Nm.place (ms.take n) a = Nm.place ms a := by unfold Nm.place; rw [e1, getD_take (by omega)]
        rcases ih _ _ _ _ _ h5 with q | q
        · left; exact Nm.rd_ptr (by omega) (by rw [e1]; exact h2) (by rw [e1]; exact h3) (by rw [e2]; exact h4) (by rw [e2]; exact q)
        · right
          unfold Nm.rd
          rw [if_neg c1, if_neg (by rw [e1]; exact h2), if_pos (by rw [e1]; exact h3), if_neg c2, if_neg (by rw [e2]; omega), e2]
          unfold Nm.ends
          rw [if_neg (by rw [q]; decide)]
          exact q
    · have e2 : Nm.long (ms.take n) a = Nm.long ms a := by unfold Nm.long; rw [e1]
      by_cases c2 : (ms.take n).length ≤ a + Nm.long ms a
      · right; unfold Nm.rd; rw [if_neg c1, if_neg (by rw [e1]; exact h2), if_neg (by rw [e1]; exact h3), if_neg (by rw [e1]; exact h4), if_pos (by rw [e2]; exact c2)]
      · have e3 := cut_take (ms := ms) (n := n) (a := a + 1) (k := Nm.long ms a) (by omega)
        rcases ih _ _ _ _ _ h6 with q | q
        · left
          have := @Nm.rd_label (ms.take n) f a low size M e (by rw [e2]; omega) (by rw [e1]; exact h2) (by rw [e1]; exact h3) (by rw [e1]; exact h4) (by rw [e2]; exact h5) (by rw [e2]; exact q)
          rw [this, e2, e3]
        · right
          unfold Nm.rd
          rw [if_neg c1, if_neg (by rw [e1]; exact h2), if_neg (by rw [e1]; exact h3), if_neg (by rw [e1]; exact h4), if_neg (by rw [e2]; exact c2), if_neg (by rw [e2]; omega), e2]
          unfold Nm.ahead
          rw [if_neg (by rw [q]; decide)]
          exact q

theorem readW_torn {ms : List Int} (n : Nat) {at0 : Int} {L : List (List Int)} {e : Nat} (h : readW ms at0 = (0, L, e)) : readW (ms.take n) at0 = (0, L, e) ∨ (readW (ms.take n) at0).1 = 2 := by
  obtain ⟨h0, h1⟩ := readW_ok h
  have hf : Nm.fu (ms.take n) at0.toNat at0.toNat ≤ Nm.fu ms at0.toNat at0.toNat := by
    have h2 : (ms.take n).length ≤ ms.length := by rw [List.length_take]; omega
    have h3 : at0.toNat * ((ms.take n).length + 1) ≤ at0.toNat * (ms.length + 1) := Nat.mul_le_mul_left _ (by omega)
    unfold Nm.fu
    omega
  have h2 := rd_torn ms n _ _ _ _ _ _ h1
  rw [Nm.rd_enough (ms.take n) at0.toNat at0.toNat 1 _ hf] at h2
  unfold readW
  rw [if_neg (by omega)]
  exact h2

theorem readQ_torn {ms : List Int} (n a : Nat) (q : Qn) (m : Nat) (h : readQ ms a = (0, q, m)) : readQ (ms.take n) a = (0, q, m) ∨ (readQ (ms.take n) a).1 = 2 := by
  obtain ⟨L, k, h1, h2, rfl, rfl⟩ := readQ_ok h
  rcases readW_torn n h1 with g | g
  · by_cases c : (ms.take n).length < k + 4
    · right; rw [readQ_short g c]
    · left; rw [readQ_of g (by omega), cut_take (by omega), cut_take (by omega)]
  · right
    obtain ⟨⟨k2, L2, m2⟩, e⟩ : ∃ s, readW (ms.take n) (a : Int) = s := ⟨_, rfl⟩
    rw [e] at g
    simp only at g
    subst g
    rw [readQ_bad e (by decide)]

theorem readR_torn {ms : List Int} (n a : Nat) (r : Rn) (m : Nat) (h : readR ms a = (0, r, m)) : readR (ms.take n) a = (0, r, m) ∨ (readR (ms.take n) a).1 = 2 := by
  obtain ⟨L, k, h1, h2, h3, rfl⟩ := readR_ok h
  obtain ⟨h4, _, _⟩ := recW_ok h1
  rcases readW_torn n h4 with g | g
  · have hp : ∀ i, i + 2 ≤ (ms.take n).length → pairN (ms.take n) i = pairN ms i := by
      intro i hi
      unfold pairN
      rw [getD_take (by omega), getD_take (by omega)]
    by_cases c : (ms.take n).length < k + 10
    · right
      rw [readR_bad (k := 2) (by unfold recW; rw [g]; simp only; rw [if_neg (by simp), if_pos c]) (by decide)]
    · by_cases c2 : (ms.take n).length < k + 10 + pairN ms (k + 8)
      · right
        rw [readR_bad (k := 2) (by unfold recW; rw [g]; simp only; rw [if_neg (by simp), if_neg c, hp _ (by omega), if_pos c2]) (by decide)]
      · left
        have e : recW (ms.take n) (a : Int) = (0, L, k, m) := by
          unfold recW
          rw [g]
          simp only
          rw [if_neg (by simp), if_neg c, hp _ (by omega), if_neg c2, h2]
        rw [readR_of e, cut_take (by omega), cut_take (by omega), cut_take (by omega), hp _ (by omega), cut_take (by omega)]
  · right
    obtain ⟨⟨k2, L2, m2⟩, e⟩ : ∃ s, readW (ms.take n) (a : Int) = s := ⟨_, rfl⟩
    rw [e] at g
    simp only at g
    subst g
    rw [readR_bad (k := 2) (by unfold recW; rw [e]; simp only; rw [if_pos (by decide)]) (by decide)]

/-- No beginning alone of bytes that are a message is one. -/
theorem msgR_torn {ms : List Int} (hb : ∀ b ∈ ms, 0 ≤ b ∧ b ≤ 255) {qs : List Qn} {r1 r2 r3 : List Rn} (h : msgR ms = (0, qs, r1, r2, r3)) {n : Nat} (hn : n < ms.length) : msgR (ms.take n) = (2, [], [], [], []) := by
  obtain ⟨h12, a0, a1, a2, e0, e1, e2, e3, f0, f1, f2⟩ := msgR_ok hb h
  have hl : (ms.take n).length = n := by rw [List.length_take]; omega
  by_cases c : n < 12
  · exact msgR_short (by omega)
  have hb' : ∀ b ∈ ms.take n, 0 ≤ b ∧ b ≤ 255 := fun b q => hb b (List.mem_of_mem_take q)
  have hp : ∀ i, i + 2 ≤ 12 → pairN (ms.take n) i = pairN ms i := by
    intro i hi
    unfold pairN
    rw [getD_take (by omega), getD_take (by omega)]
  have g0 := parts_cut (readQ_torn (ms := ms) n) e0
  rcases g0 with g0 | g0
  case inr =>
    obtain ⟨⟨k, l, m⟩, e⟩ : ∃ s, partsN (readQ (ms.take n)) (pairN ms 4) 12 = s := ⟨_, rfl⟩
    rw [e] at g0; simp only at g0; subst g0
    rw [← hp 4 (by omega)] at e
    exact msgR_q (by omega) e (by decide)
  have g1 := parts_cut (readR_torn (ms := ms) n) e1
  rw [← hp 4 (by omega)] at g0
  rcases g1 with g1 | g1
  case inr =>
    obtain ⟨⟨k, l, m⟩, e⟩ : ∃ s, partsN (readR (ms.take n)) (pairN ms 6) a0 = s := ⟨_, rfl⟩
    rw [e] at g1; simp only at g1; subst g1
    rw [← hp 6 (by omega)] at e
    exact msgR_1 (by omega) g0 e (by decide)
  have g2 := parts_cut (readR_torn (ms := ms) n) e2
  rw [← hp 6 (by omega)] at g1
  rcases g2 with g2 | g2
  case inr =>
    obtain ⟨⟨k, l, m⟩, e⟩ : ∃ s, partsN (readR (ms.take n)) (pairN ms 8) a1 = s := ⟨_, rfl⟩
    rw [e] at g2; simp only at g2; subst g2
    rw [← hp 8 (by omega)] at e
    exact msgR_2 (by omega) g0 g1 e (by decide)
  have g3 := parts_cut (readR_torn (ms := ms) n) e3
  rw [← hp 8 (by omega)] at g2
  rcases g3 with g3 | g3
  case inr =>
    obtain ⟨⟨k, l, m⟩, e⟩ : ∃ s, partsN (readR (ms.take n)) (pairN ms 10) a2 = s := ⟨_, rfl⟩
    rw [e] at g3; simp only at g3; subst g3
    rw [← hp 10 (by omega)] at e
    exact msgR_3 (by omega) g0 g1 g2 e (by decide)
  exfalso
  have k0 := parts_end (readQ_step hb') (parts_ok g0).2 (by omega)
  have k1 := parts_end (readR_step hb') (parts_ok g1).2 k0.2
  have k2 := parts_end (readR_step hb') (parts_ok g2).2 k1.2
  have k3 := parts_end (readR_step hb') (parts_ok g3).2 k2.2
  omega

theorem parts_more {α : Type} {f g : Nat → Int × α × Nat} (hfg : ∀ a x n, f a = (0, x, n) → g a = (0, x, n)) {c a e : Nat} {xs : List α} (h : partsN f c a = (0, xs, e)) : partsN g c a = (0, xs, e) := by
  obtain ⟨h1, h2⟩ := parts_ok h
  have := parts_of (parts_mono hfg h2)
  rw [h1] at this
  exact this

/-- Nor are they with more behind them. -/
theorem msgR_extra {ms : List Int} (hb : ∀ b ∈ ms, 0 ≤ b ∧ b ≤ 255) {qs : List Qn} {r1 r2 r3 : List Rn} (h : msgR ms = (0, qs, r1, r2, r3)) {more : List Int} (hm : ¬ more = []) : msgR (ms ++ more) = (8, [], [], [], []) := by
  obtain ⟨h12, a0, a1, a2, e0, e1, e2, e3, f0, f1, f2⟩ := msgR_ok hb h
  have hl : 0 < more.length := by
    rcases Nat.eq_zero_or_pos more.length with q | q
    · exact absurd (List.length_eq_zero_iff.1 q) hm
    · exact q
  have g0 := parts_more (readQ_more more) e0
  have g1 := parts_more (readR_more more) e1
  have g2 := parts_more (readR_more more) e2
  have g3 := parts_more (readR_more more) e3
  rw [← pair_more ms more 4 (by omega)] at g0
  rw [← pair_more ms more 6 (by omega)] at g1
  rw [← pair_more ms more 8 (by omega)] at g2
  rw [← pair_more ms more 10 (by omega)] at g3
  rw [msgR_4 (by rw [List.length_append]; omega) g0 g1 g2 g3, if_pos (by rw [List.length_append]; omega)]

theorem rd_far {ms : List Int} : ∀ (f a low size : Nat) (L : List (List Int)) (e : Nat), Nm.rd ms f a low size = (0, L, e) → e ≤ a + Nm.total L + 2 := by
  intro f
  induction f with
  | zero => intro a low size L e h; exact absurd h Nm.rd_zero
  | succ f ih =>
    intro a low size L e h
    rcases Nm.rd_cases h with ⟨h1, h2, rfl, rfl⟩ | ⟨h1, h2, h3, h4, rfl, e', h5⟩ | ⟨h1, h2, h3, h4, h5, M, rfl, h6⟩
    · omega
    · omega
    · have := ih _ _ _ _ _ h6
      rw [Nm.total_cons, Nm.cut_length (by omega)]
      omega

theorem readW_far {ms : List Int} (hb : ∀ b ∈ ms, 0 ≤ b ∧ b ≤ 255) {a : Nat} {L : List (List Int)} {e : Nat} (h : readW ms (a : Int) = (0, L, e)) : e ≤ a + 256 := by
  obtain ⟨h0, h1⟩ := readW_ok h
  have h2 := rd_far _ _ _ _ _ _ h1
  obtain ⟨_, _, _, h3, _⟩ := readW_may hb h
  have := (check_zero h3).2
  omega

theorem parts_far {α : Type} {f : Nat → Int × α × Nat} {K : Nat} (hf : ∀ a x n, f a = (0, x, n) → n ≤ a + K) : ∀ {xs : List α} {a e : Nat}, Parts f a xs e → e ≤ a + xs.length * K := by
  intro xs
  induction xs with
  | nil => intro a e h; unfold Parts at h; subst h; omega
  | cons x xs ih =>
    intro a e h
    unfold Parts at h
    obtain ⟨n, h1, h2⟩ := h
    have := hf a x n h1
    have := ih h2
    rw [List.length_cons, Nat.succ_mul]
    omega

/-- How long bytes that are a message can be. -/
theorem msg_long {ms : List Int} (hb : ∀ b ∈ ms, 0 ≤ b ∧ b ≤ 255) {qs : List Qn} {r1 r2 r3 : List Rn} (h : msgR ms = (0, qs, r1, r2, r3)) : ms.length ≤ 20000000000 := by
  obtain ⟨h12, a0, a1, a2, e0, e1, e2, e3, f0, f1, f2⟩ := msgR_ok hb h
  have q0 : ∀ a x n, readQ ms a = (0, x, n) → n ≤ a + 66000 := by
    intro a x n h
    obtain ⟨L, m, h1, _, rfl, _⟩ := readQ_ok h
    have := readW_far hb h1
    omega
  have q1 : ∀ a x n, readR ms a = (0, x, n) → n ≤ a + 66000 := by
    intro a x n h
    obtain ⟨L, m, h1, h2, _, _⟩ := readR_ok h
    have := readW_far hb (recW_ok h1).1
    have := pair_le hb (m + 8)
    omega
  obtain ⟨l0, p0⟩ := parts_ok e0
  obtain ⟨l1, p1⟩ := parts_ok e1
  obtain ⟨l2, p2⟩ := parts_ok e2
  obtain ⟨l3, p3⟩ := parts_ok e3
  have k0 := parts_far q0 p0
  have k1 := parts_far q1 p1
  have k2 := parts_far q1 p2
  have k3 := parts_far q1 p3
  have z0 := pair_le hb 4
  have z1 := pair_le hb 6
  have z2 := pair_le hb 8
  have z3 := pair_le hb 10
  omega

/-- A message without anything. -/
def hdZ : Hd := ⟨0, false, 0, false, false, false, false, false, false, false, 0⟩

theorem fact_empty : msgE hdZ [] [] [] [] = 0 ∧ (endS hdZ [] [] [] []).1.length = 12 := by decide +kernel

theorem mwrite_empty (w : World) : Calls Try.prog 5 #[.agg #[.int .i64 0, .bool false, .int .i64 0, .bool false, .bool false, .bool false, .bool false, .bool false, .bool false, .bool false, .int .i64 0, .slice none 0 0, .slice none 0 0, .slice none 0 0, .slice none 0 0]] w fun e w' => ∃ x c, e = .returned (.tuple #[.slice x 12 c, .nilIface]) ∧ Below w.heap.size w w' := by
  have k := mwrite_any (bq := 0) hdZ [] [] [] [] w (Qs.nil w 0 none 0) (Rs.nil w 0 none 0) (Rs.nil w 0 none 0) (Rs.nil w 0 none 0)
  have k2 : Calls Try.prog 5 #[.agg #[.int .i64 0, .bool false, .int .i64 0, .bool false, .bool false, .bool false, .bool false, .bool false, .bool false, .bool false, .int .i64 0, .slice none 0 0, .slice none 0 0, .slice none 0 0, .slice none 0 0]] w (WrotePost hdZ [] [] [] [] w) := k
  refine k2.mono ?_
  rintro e w' (⟨_, x, c, rfl, _, hb⟩ | ⟨hn, _⟩)
  · rw [fact_empty.2]
    exact ⟨x, c, rfl, hb⟩
  · exact absurd fact_empty.1 hn

theorem mread_err {x : Option Addr} {c l : Nat} (k : Int) (ms : List Int) (w : World) (hs : Bys w x c ms) (hl : ms.length = l) (hr : msgR ms = (k, [], [], [], [])) (hk : ¬ k = 0) :
    Calls Try.prog 12 #[.slice x l c] w fun e w' => e = .returned (.tuple #[.agg #[.int .i64 0, .bool false, .int .i64 0, .bool false, .bool false, .bool false, .bool false, .bool false, .bool false, .bool false, .int .i64 0, .slice none 0 0, .slice none 0 0, .slice none 0 0, .slice none 0 0], .iface 43 (.int .i64 k)]) ∧ Below w.heap.size w w' := by
  refine (mread_any ms w hs hl).mono ?_
  rintro e w' (⟨qs, r1, r2, r3, h, _⟩ | ⟨k', _, h, he, hb⟩)
  · rw [hr] at h
    simp only [Prod.mk.injEq] at h
    exact absurd h.1 hk
  · rw [hr] at h
    simp only [Prod.mk.injEq] at h
    rw [← h.1] at he
    exact ⟨he, hb⟩

theorem mread_good {x : Option Addr} {c l : Nat} {qs : List Qn} {r1 r2 r3 : List Rn} (ms : List Int) (w : World) (hs : Bys w x c ms) (hl : ms.length = l) (hr : msgR ms = (0, qs, r1, r2, r3)) :
    Calls Try.prog 12 #[.slice x l c] w (MsgAt (hdR ms) qs r1 r2 r3 w) := by
  refine (mread_any ms w hs hl).mono ?_
  rintro e w' (⟨qs', r1', r2', r3', h, k⟩ | ⟨k', h0, h, he, hb⟩)
  · rw [hr] at h
    simp only [Prod.mk.injEq, true_and] at h
    obtain ⟨rfl, rfl, rfl, rfl⟩ := h
    exact k
  · rw [hr] at h
    simp only [Prod.mk.injEq] at h
    exact absurd h.1.symm h0

theorem mread_norm (ms : List Int) : (msgR ms).1 = 0 ∨ msgR ms = ((msgR ms).1, [], [], [], []) := by
  by_cases h12 : ms.length < 12
  · right; rw [msgR_short h12]
  have h12' : 12 ≤ ms.length := by omega
  obtain ⟨⟨k0, qs, a0⟩, e0⟩ : ∃ s, partsN (readQ ms) (pairN ms 4) 12 = s := ⟨_, rfl⟩
  by_cases z0 : k0 = 0
  case neg => right; rw [msgR_q h12' e0 z0]
  subst z0
  obtain ⟨⟨k1, r1, a1⟩, e1⟩ : ∃ s, partsN (readR ms) (pairN ms 6) a0 = s := ⟨_, rfl⟩
  by_cases z1 : k1 = 0
  case neg => right; rw [msgR_1 h12' e0 e1 z1]
  subst z1
  obtain ⟨⟨k2, r2, a2⟩, e2⟩ : ∃ s, partsN (readR ms) (pairN ms 8) a1 = s := ⟨_, rfl⟩
  by_cases z2 : k2 = 0
  case neg => right; rw [msgR_2 h12' e0 e1 e2 z2]
  subst z2
  obtain ⟨⟨k3, r3, a3⟩, e3⟩ : ∃ s, partsN (readR ms) (pairN ms 10) a2 = s := ⟨_, rfl⟩
  by_cases z3 : k3 = 0
  case neg => right; rw [msgR_3 h12' e0 e1 e2 e3 z3]
  subst z3
  rw [msgR_4 h12' e0 e1 e2 e3]
  by_cases c : a3 < ms.length
  · right; rw [if_pos c]
  · left; rw [if_neg c]

theorem mread_hd {x : Option Addr} {c l : Nat} {qs : List Qn} {r1 r2 r3 : List Rn} (h : Hd) (ms : List Int) (w : World) (hs : Bys w x c ms) (hl : ms.length = l) (hr : msgR ms = (0, qs, r1, r2, r3)) (hh : hdR ms = h) :
    Calls Try.prog 12 #[.slice x l c] w (MsgAt h qs r1 r2 r3 w) := by
  subst hh
  exact mread_good ms w hs hl hr

end Go.Proofs.Ytjpahieeaojieab
