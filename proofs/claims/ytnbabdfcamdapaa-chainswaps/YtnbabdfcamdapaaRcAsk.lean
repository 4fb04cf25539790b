/-
  The walks of package rule's begins and asks: does a node that takes nothing hold of a query?
-/
import Derived.Test.YtnbabdfcamdapaaRcChk
import Derived.Test.YtnbabdfcamdapaaTrieA
import Derived.Test.YtnbabdfcamdapaaSubW
import Derived.BigQuiet
namespace Go.Proofs.Ytnbabdfcamdapaa.Ru
open Go.RowKit Go.Deep

/-- Some bits of a byte, from its first on. -/
theorem top_bits : ∀ z : Fin 256, ∀ r : Fin 8, (z.val / 2 ^ (8 - r.val) = 0 ↔ ∀ j : Fin 8, j.val < r.val → Nat.testBit z.val (7 - j.val) = false) := by decide +kernel

theorem all_bits : ∀ z : Fin 256, (z.val = 0 ↔ ∀ j : Fin 8, Nat.testBit z.val (7 - j.val) = false) := by decide +kernel

theorem bit_byt {a : List Int} {i x j : Nat} (hx : byt a i = (x : Int)) (hj : j < 8) : bitN a (8 * i + j) = if Nat.testBit x (7 - j) then 1 else 0 := by
  rw [byt_bit, show (8 * i + j) / 8 = i by omega, show (8 * i + j) % 8 = j by omega, hx]
  exact bit_test x (7 - j)

theorem xor_bits {a k : List Int} {i x y j : Nat} (hx : byt a i = (x : Int)) (hy : byt k i = (y : Int)) (hj : j < 8) : bitN a (8 * i + j) = bitN k (8 * i + j) ↔ Nat.testBit (x ^^^ y) (7 - j) = false := by
  rw [bit_byt hx hj, bit_byt hy hj, Nat.testBit_xor]
  cases Nat.testBit x (7 - j) <;> cases Nat.testBit y (7 - j) <;> simp

/-- Whole bytes that are the same. -/
theorem al_bytes {F A : List Int} (hF : ∀ x ∈ F, 0 ≤ x ∧ x ≤ 255) (hA : ∀ x ∈ A, 0 ≤ x ∧ x ≤ 255) (q : Nat) (h1 : q ≤ F.length) (h2 : q ≤ A.length) : Al F A (8 * q) ↔ F.take q = A.take q := by
  have hb : ∀ i, i < q → (byt F i = byt A i ↔ ∀ j, j < 8 → bitN F (8 * i + j) = bitN A (8 * i + j)) := by
    intro i _
    obtain ⟨x, hx, lx⟩ := byt_nat hF i
    obtain ⟨y, hy, ly⟩ := byt_nat hA i
    have hz : x ^^^ y < 256 := Nat.xor_lt_two_pow (n := 8) lx ly
    have h := all_bits ⟨x ^^^ y, hz⟩
    simp only at h
    constructor
    · intro e j hj
      rw [bit_byt hx hj, bit_byt hy hj, show x = y by omega]
    · intro k
      have : x ^^^ y = 0 := h.2 fun j => (xor_bits hx hy j.isLt).1 (k j.val j.isLt)
      have e : x = y := Nat.eq_of_testBit_eq fun i => by
        have t := congrArg (fun n => Nat.testBit n i) this
        simp only [Nat.testBit_xor, Nat.zero_testBit] at t
        cases p : Nat.testBit x i <;> cases q : Nat.testBit y i <;> simp_all
      omega
  constructor
  · intro h
    refine List.ext_getElem (by simp; omega) fun i k1 k2 => ?_
    have hi : i < q := by simp at k1; omega
    have := (hb i hi).2 fun j hj => h (8 * i + j) (by omega)
    unfold byt at this
    rw [List.getD_eq_getElem?_getD, List.getD_eq_getElem?_getD, List.getElem?_eq_getElem (by omega), List.getElem?_eq_getElem (by omega)] at this
    simpa using this
  · intro h i hi
    have h8 : i / 8 < q := by omega
    have e : byt F (i / 8) = byt A (i / 8) := by
      have := congrArg (fun l : List Int => l[i / 8]?) h
      simp only [List.getElem?_take] at this
      rw [if_pos h8, if_pos h8] at this
      unfold byt
      rw [List.getD_eq_getElem?_getD, List.getD_eq_getElem?_getD, this]
    have := (hb (i / 8) h8).1 e (i % 8) (by omega)
    rwa [show 8 * (i / 8) + i % 8 = i by omega] at this

/-- And the first bits of the byte behind them. -/
theorem al_over {F A : List Int} (q r x y : Nat) (hx : byt F q = (x : Int)) (hy : byt A q = (y : Int)) (lx : x < 256) (ly : y < 256) (hr : r < 8) (h : Al F A (8 * q)) : Al F A (8 * q + r) ↔ (x ^^^ y) / 2 ^ (8 - r) = 0 := by
  have hz : x ^^^ y < 256 := Nat.xor_lt_two_pow (n := 8) lx ly
  have t := top_bits ⟨x ^^^ y, hz⟩ ⟨r, hr⟩
  simp only at t
  rw [t]
  constructor
  · intro k j hj
    exact (xor_bits hx hy j.isLt).1 (k _ (by omega))
  · intro k i hi
    by_cases c : i < 8 * q
    · exact h i c
    · have := (xor_bits hx hy (j := i - 8 * q) (by omega)).2 (k ⟨i - 8 * q, by omega⟩ (by simp only; omega))
      rwa [show 8 * q + (i - 8 * q) = i by omega] at this

/-- Bytes as a string. -/
theorem conv_bys {x : Option Addr} {c : Nat} {A : List Int} {w : World} (h : Bys w x c A) : ∀ dst, Try.prog.underlying dst = some .string → (convert 27 dst (.slice x A.length c)).run Try.prog w = .ok (.string (strOfNums A)) w := by
  rcases h.2.2.2 with q | ⟨b, off, rfl, _, q⟩
  · subst q
    intro dst hd
    rw [List.length_nil, run_convert_bytes_string w 27 dst 5 x 0 c Try.underlying27 Try.underlying5 hd]
    cases x <;> simp [Conv.bytesToString, loadCells]
    all_goals rfl
  · exact run_convert_bytes_arg (P := Try.prog) w 27 5 Try.underlying27 Try.underlying5 b off A.length c A rfl q

set_option maxHeartbeats 400000 in
set_option maxRecDepth 100000 in
theorem beq_any {xa xb : Option Addr} {ca cb l1 l2 : Nat} (r : Bool) (A B : List Int) (w : World) (hA : Bys w xa ca A) (hB : Bys w xb cb B) (h1 : A.length = l1) (h2 : B.length = l2) (hr : decide (A = B) = r) :
    Calls Try.prog 26 #[.slice xa l1 ca, .slice xb l2 cb] w fun e w' => e = .returned (.bool r) ∧ w = w' := by
  subst h1 h2
  rw [← str_inj hA.2.2.1 hB.2.2.1] at hr
  have k1 := conv_bys hA 9 Try.underlying9
  have k2 := conv_bys hB 9 Try.underlying9
  clear hA hB
  generalize strOfNums A = S at *
  generalize strOfNums B = T at *
  subst hr
  go_enter Try.func26, Try.ntmps26
  go_wp2
  go_ret
  exact ⟨ret_bool (bytes_eq S T), rfl⟩

theorem bys_take {w : World} {x : Option Addr} {c : Nat} {ms : List Int} (h : Bys w x c ms) (k : Nat) (hk : k ≤ ms.length) : Bys w x c (ms.take k) := by
  obtain ⟨h1, h2, h3, h4⟩ := h
  have hl : (ms.take k).length = k := by rw [List.length_take]; omega
  refine ⟨by omega, by omega, fun b hb => h3 b (List.mem_of_mem_take hb), ?_⟩
  rcases h4 with h4 | ⟨b, off, hx, hb, hc⟩
  · left; rw [h4]; simp
  · right
    refine ⟨b, off, hx, hb, fun i hi => ?_⟩
    rw [hc i (by omega), List.getD_eq_getElem?_getD, List.getD_eq_getElem?_getD, List.getElem?_take, if_pos (by omega)]

set_option maxHeartbeats 1000000 in
set_option maxRecDepth 100000 in
theorem begins_zero {x z : Option Addr} {c t l1 l2 : Nat} (F A : List Int) (w : World) (hF : Bys w x c F) (hx : x = none → c = 0) (hA : Bys w z t A) (hz : z = none → t = 0) (h1 : F.length = l1) (h2 : A.length = l2) :
    Calls Try.prog 23 #[.slice x l1 c, .slice z l2 t, .int .i64 0] w fun e w' => e = .returned (.bool true) ∧ Drawn w w' := by
  subst h1 h2
  have f1 := hF.1
  have f2 := hF.2.1
  have a1 := hA.1
  have a2 := hA.2.1
  have hn1 : x = none → F.length = 0 := fun e => by rcases hF.2.2.2 with q | ⟨b, off, q, _⟩; · rw [q]; rfl
                                                    · rw [e] at q; cases q
  have hn2 : z = none → A.length = 0 := fun e => by rcases hA.2.2.2 with q | ⟨b, off, q, _⟩; · rw [q]; rfl
                                                    · rw [e] at q; cases q
  have EQ := hid (fun (u : World) (hu : Drawn w u) => (beq_any (l1 := 0) (l2 := 0) true (F.take 0) (A.take 0) u ((bys_take hF 0 (Nat.zero_le _)).below (hu.below _)) ((bys_take hA 0 (Nat.zero_le _)).below (hu.below _)) (by simp) (by simp) (by simp)).mono fun _ _ h => (⟨h.1, h.2.symm⟩ : _ ∧ _))
  clear hF hA
  have g0 : ¬ (F.length : Int) * 8 < 0 := by omega
  cases x with
  | none =>
    obtain rfl := hx rfl
    have e1 := hn1 rfl
    cases z with
    | none =>
      obtain rfl := hz rfl
      have e2 := hn2 rfl
      rw [e1, e2]
      clear hn1 hn2 hx hz e1 e2 g0
      go_enter Try.func23, Try.ntmps23
      go_wp2_with fail
      go_quiet ((go_at_call 26; exact Calls.quiet_of_same (EQ.out _ ⟨_, rfl⟩)))
      have D1 := hid ((Drawn.refl w).more nq)
      generalize w.drewN nq = w1 at *
      go_wp2
      go_quiet (fail)
      go_wp2
      go_ret
      exact ⟨rfl, D1.out.more _⟩
    | some b =>
      rw [e1]
      clear hn1 hn2 hx hz e1 g0
      go_enter Try.func23, Try.ntmps23
      go_wp2_with fail
      go_quiet ((go_at_call 26; exact Calls.quiet_of_same (EQ.out _ ⟨_, rfl⟩)))
      have D1 := hid ((Drawn.refl w).more nq)
      generalize w.drewN nq = w1 at *
      go_wp2
      go_quiet (fail)
      go_wp2
      go_ret
      exact ⟨rfl, D1.out.more _⟩
  | some a =>
    cases z with
    | none =>
      obtain rfl := hz rfl
      have e2 := hn2 rfl
      rw [e2]
      clear hn1 hn2 hx hz e2
      go_enter Try.func23, Try.ntmps23
      go_wp2_with fail
      go_quiet ((go_at_call 26; exact Calls.quiet_of_same (EQ.out _ ⟨_, rfl⟩)))
      have D1 := hid ((Drawn.refl w).more nq)
      generalize w.drewN nq = w1 at *
      go_wp2
      go_quiet (fail)
      go_wp2
      go_ret
      exact ⟨rfl, D1.out.more _⟩
    | some b =>
      clear hn1 hn2 hx hz
      go_enter Try.func23, Try.ntmps23
      go_wp2_with fail
      go_quiet ((go_at_call 26; exact Calls.quiet_of_same (EQ.out _ ⟨_, rfl⟩)))
      have D1 := hid ((Drawn.refl w).more nq)
      generalize w.drewN nq = w1 at *
      go_wp2
      go_quiet (fail)
      go_wp2
      go_ret
      exact ⟨rfl, D1.out.more _⟩

set_option maxHeartbeats 2000000 in
set_option maxRecDepth 100000 in
theorem begins_some {a b : Addr} {c t : Nat} (r : Bool) (F A : List Int) (v : Nat) (w : World) (hF : Bys w (some a) c F) (hA : Bys w (some b) t A) (hv : v ≤ 8 * A.length) (h16 : A.length ≤ 16) (hr : (decide ((v : Int) ≤ 8 * (F.length : Int)) && decide (Al F A v)) = r) :
    Calls Try.prog 23 #[.slice (some a) F.length c, .slice (some b) A.length t, .int .i64 (v : Int)] w fun e w' => e = .returned (.bool r) ∧ Drawn w w' := by
  subst hr
  have f1 := hF.1
  have f2 := hF.2.1
  have a1 := hA.1
  by_cases c8 : (v : Int) ≤ 8 * (F.length : Int)
  rotate_left
  · rw [decide_eq_false c8, Bool.false_and]
    have g0 : (F.length : Int) * 8 < (v : Int) := by omega
    clear hF hA
    go_enter Try.func23, Try.ntmps23
    go_wp2
    go_ret
    exact ⟨rfl, Drawn.refl _⟩
  rw [decide_eq_true c8, Bool.true_and]
  have g0 : ¬ (F.length : Int) * 8 < (v : Int) := by omega
  obtain ⟨q, hq⟩ : ∃ q, v / 8 = q := ⟨_, rfl⟩
  obtain ⟨o, ho⟩ : ∃ o, v % 8 = o := ⟨_, rfl⟩
  have ea : (v : Int) / 8 = (q : Int) := by omega
  have er : (v : Int) % 8 = (o : Int) := by omega
  have hvq : v = 8 * q + o := by omega
  have hqF : q ≤ F.length := by omega
  have hqA : q ≤ A.length := by omega
  have hqc : (q : Int) ≤ (c : Int) := by omega
  have hqt : (q : Int) ≤ (t : Int) := by omega
  have H8 := al_bytes hF.2.2.1 hA.2.2.1 q hqF hqA
  have EQ := hid (fun (u : World) (hu : Drawn w u) => (beq_any (l1 := q) (l2 := q) (decide (F.take q = A.take q)) (F.take q) (A.take q) u ((bys_take hF q hqF).below (hu.below _)) ((bys_take hA q hqA).below (hu.below _)) (by simp; omega) (by simp; omega) rfl).mono fun _ _ h => (⟨h.1, h.2.symm⟩ : _ ∧ _))
  by_cases cT : F.take q = A.take q
  rotate_left
  · have cf : decide (F.take q = A.take q) = false := decide_eq_false cT
    rw [cf] at EQ
    have e : decide (Al F A v) = false := decide_eq_false fun k => cT (H8.1 (k.mono (by omega)))
    rw [e]
    clear hF hA H8 cT cf e hq ho hvq
    go_enter Try.func23, Try.ntmps23
    go_wp2
    go_quiet ((go_at_call 26; exact Calls.quiet_of_same (EQ.out _ ⟨_, rfl⟩)))
    have D1 := hid ((Drawn.refl w).more nq)
    generalize w.drewN nq = w1 at *
    go_wp2
    go_ret
    exact ⟨rfl, D1.out⟩
  have cf : decide (F.take q = A.take q) = true := decide_eq_true cT
  rw [cf] at EQ
  have h8 := H8.2 cT
  by_cases c0 : o = 0
  · subst c0
    have e : decide (Al F A v) = true := decide_eq_true (by rw [hvq]; exact h8)
    rw [e]
    clear hF hA H8 cT cf e hq hvq h8
    go_enter Try.func23, Try.ntmps23
    go_wp2
    go_quiet ((go_at_call 26; exact Calls.quiet_of_same (EQ.out _ ⟨_, rfl⟩)))
    have D1 := hid ((Drawn.refl w).more nq)
    generalize w.drewN nq = w1 at *
    go_wp2
    go_quiet (fail)
    go_wp2
    go_ret
    exact ⟨rfl, D1.out.more _⟩
  have o8 : o < 8 := by omega
  have qF : q < F.length := by omega
  have qA : q < A.length := by omega
  obtain ⟨b1, o1, hx, _, pF⟩ := hF.2.2.2.resolve_left (fun e => by rw [e] at qF; simp at qF)
  obtain ⟨b2, o2, hz, _, pA⟩ := hA.2.2.2.resolve_left (fun e => by rw [e] at qA; simp at qA)
  obtain rfl := Option.some.inj hx
  obtain rfl := Option.some.inj hz
  obtain ⟨x, ex, lx⟩ := byt_nat hF.2.2.1 q
  obtain ⟨y, ey, ly⟩ := byt_nat hA.2.2.1 q
  have k1 : w.cell? ⟨b1, o1 + q, none⟩ = some (.int .u8 (x : Int)) := by rw [pF q qF, ← ex]; rfl
  have k2 : w.cell? ⟨b2, o2 + q, none⟩ = some (.int .u8 (y : Int)) := by rw [pA q qA, ← ey]; rfl
  have hxo := (xor_byte x y lx ly).1
  have hz1 := (xor_byte x y lx ly).2
  have e : decide (Al F A v) = decide ((x ^^^ y) / 2 ^ (8 - o) = 0) := decide_eq_decide.2 (by rw [hvq]; exact al_over q o x y ex ey lx ly o8 h8)
  have e2 : decide ((x ^^^ y) / 2 ^ (8 - o) = 0) = (((x ^^^ y : Nat) : Int) / 2 ^ (8 - o) == 0) := by
    have : (((x ^^^ y : Nat) : Int) / 2 ^ (8 - o)) = (((x ^^^ y) / 2 ^ (8 - o) : Nat) : Int) := by rw [Int.natCast_ediv, Int.natCast_pow]; rfl
    rw [this]
    by_cases q0 : (x ^^^ y) / 2 ^ (8 - o) = 0
    · rw [q0]; rfl
    · rw [decide_eq_false q0]; symm
      generalize (x ^^^ y) / 2 ^ (8 - o) = k at q0
      simpa using q0
  rw [e, e2]
  have hoi : (o : Int) ≤ 7 := by omega
  have ho0 : ((o : Int) == 0) = false := by simpa using c0
  have hqFi : (q : Int) < (F.length : Int) := by omega
  have hqAi : (q : Int) < (A.length : Int) := by omega
  generalize x ^^^ y = z at *
  clear hF hA H8 cT cf e e2 hq ho hvq h8 pF pA ex ey hx hz c0
  go_enter Try.func23, Try.ntmps23
  go_wp2
  go_quiet ((go_at_call 26; exact Calls.quiet_of_same (EQ.out _ ⟨_, rfl⟩)))
  have D1 := hid ((Drawn.refl w).more nq)
  replace k1 := (D1.out.cell _).trans k1
  replace k2 := (D1.out.cell _).trans k2
  generalize w.drewN nq = w1 at *
  clear EQ
  go_wp2
  go_quiet (fail)
  go_wp2
  go_ret
  exact ⟨rfl, D1.out.more _⟩

theorem begins_at {x z : Option Addr} {c t l1 l2 : Nat} (r : Bool) (F A : List Int) (v : Nat) (w : World) (hF : Bys w x c F) (hx : x = none → c = 0) (hA : Bys w z t A) (hz : z = none → t = 0) (h1 : F.length = l1) (h2 : A.length = l2) (hv : v ≤ 8 * A.length) (h16 : A.length ≤ 16) (hr : (decide ((v : Int) ≤ 8 * (F.length : Int)) && decide (Al F A v)) = r) :
    Calls Try.prog 23 #[.slice x l1 c, .slice z l2 t, .int .i64 (v : Int)] w fun e w' => e = .returned (.bool r) ∧ Drawn w w' := by
  by_cases c0 : v = 0
  · subst c0
    have : r = true := by rw [← hr, decide_eq_true (by omega), decide_eq_true (show Al F A 0 from fun i hi => absurd hi (by omega))]; rfl
    subst this
    exact begins_zero F A w hF hx hA hz h1 h2
  · subst h1 h2
    cases z with
    | none =>
      rcases hA.2.2.2 with q | ⟨b, off, q, _⟩
      · rw [q] at hv; simp at hv; omega
      · cases q
    | some b =>
      cases x with
      | some a => exact begins_some r F A v w hF hA hv h16 hr
      | none =>
        rcases hF.2.2.2 with q | ⟨a, off, q, _⟩
        · have : r = false := by rw [← hr, decide_eq_false (by rw [q]; simp; omega)]; rfl
          subst this
          obtain rfl := hx rfl
          rw [q]
          have g0 : (0 : Int) < (v : Int) := by omega
          clear hF hA hr hv h16
          go_enter Try.func23, Try.ntmps23
          go_wp2
          go_ret
          exact ⟨rfl, Drawn.refl _⟩
        · cases q

theorem rc_leaf {m : Mt} (h : matchE m = 0) (k : takes m.op = 0) : m.op = 1 ∨ m.op = 2 ∨ m.op = 3 ∨ m.op = 4 ∨ m.op = 5 ∨ m.op = 6 ∨ m.op = 7 := by
  unfold matchE at h
  split at h
  · cases h
  · unfold takes at k
    split at k
    · cases k
    · split at k
      · cases k
      · omega

theorem rc_from {m : Mt} (h : matchE m = 0) (k : m.op = 7) : 0 ≤ m.n ∧ m.n ≤ 8 * (m.A.length : Int) ∧ m.A.length ≤ 16 := by
  unfold matchE at h
  split at h
  · cases h
  · split at h
    · cases h
    · split at h
      · omega
      · split at h
        · cases h
        · split at h
          · cases h
          · have e : mostN m.op m.A.length = 8 * (m.A.length : Int) := by unfold mostN; rw [if_pos k]
            generalize mostN m.op m.A.length = mm at *
            omega

set_option maxHeartbeats 4000000 in
set_option maxRecDepth 100000 in
theorem nasks_at {y z y1 z1 : Option Addr} {s t s1 t1 : Nat} (q : Qy) (m : Mt) (v : Bool) (w : World) (hS : Strs w y1 s1 m.N) (hB : Bys w z1 t1 m.A) (hz : z1 = none → t1 = 0) (hq : QyIs w q y s z t) (hm : takes m.op = 0) (hE : matchE m = 0) (hv : leafEv q m = v) :
    Calls Try.prog 17 #[.agg #[.int .i64 m.op, .int .i64 m.n, .slice y1 m.N.length s1, .slice z1 m.A.length t1], .agg #[.slice y q.N.length s, .int .i64 q.ty, .int .i64 q.cl, .int .i64 q.opc, .bool q.rd, .slice z q.F.length t]] w fun e w' => e = .returned (.bool v) ∧ Below w.heap.size w w' := by
  subst hv
  obtain ⟨B2, B1, B3⟩ := rlTwo 45 29 w #[.int .i64 m.op, .int .i64 m.n, .slice y1 m.N.length s1, .slice z1 m.A.length t1] #[.slice y q.N.length s, .int .i64 q.ty, .int .i64 q.cl, .int .i64 q.opc, .bool q.rd, .slice z q.F.length t]
  have SS := hid (hS.below B3)
  have DD := hid (hB.below B3)
  have QQ := hid (hq.below B3)
  have F7 := hid (fun e => rc_from (m := m) hE e)
  have OPS := rc_leaf hE hm
  have HZ := hid hz
  obtain ⟨W1, hW⟩ : ∃ W1, (w.alloc (.cells #[.int .i64 m.op, .int .i64 m.n, .slice y1 m.N.length s1, .slice z1 m.A.length t1] 45)).alloc (.cells #[.slice y q.N.length s, .int .i64 q.ty, .int .i64 q.cl, .int .i64 q.opc, .bool q.rd, .slice z q.F.length t] 29) = W1 := ⟨_, rfl⟩
  rw [hW] at B1 B2 B3 SS DD QQ
  have HW := hid hW
  have WW := hid B3
  obtain ⟨q0, q1, q2, q3, q4, q5⟩ := bl6 B1
  obtain ⟨m0, m1, m2, m3⟩ := bl4 B2
  clear hS hB hq hE hm B1 B2 B3 hW hz
  obtain ⟨op, n, N, A⟩ := m
  simp only at *
  go_enter Try.func17, Try.ntmps17
  go_upto_region 1 with fail
  rw [HW.out]
  clear HW
  rcases OPS with rfl | rfl | rfl | rfl | rfl | rfl | rfl
  · have E : Hid (leafEv q ⟨1, n, N, A⟩ = true) := hid rfl
    go_wp2_with fail
    go_ret
    exact ⟨by rw [E.out]; rfl, WW.out⟩
  · have E : Hid (leafEv q ⟨2, n, N, A⟩ = Nm.under q.N N) := hid rfl
    go_wp2_with fail
    refine (under_at (Nm.under q.N N) q.N N W1 QQ.out.1 SS.out rfl rfl rfl).mono ?_
    rintro e w2 ⟨rfl, d⟩
    have W2 := hid (WW.out.trans (d.below _))
    clear d
    go_wp2_with fail
    go_ret
    exact ⟨by rw [E.out]; rfl, W2.out⟩
  · have E : Hid (leafEv q ⟨3, n, N, A⟩ = (q.ty == n)) := hid rfl
    go_wp2_with fail
    go_ret
    exact ⟨by rw [E.out]; rfl, WW.out⟩
  · have E : Hid (leafEv q ⟨4, n, N, A⟩ = (q.cl == n)) := hid rfl
    go_wp2_with fail
    go_ret
    exact ⟨by rw [E.out]; rfl, WW.out⟩
  · have E : Hid (leafEv q ⟨5, n, N, A⟩ = (q.opc == n)) := hid rfl
    go_wp2_with fail
    go_ret
    exact ⟨by rw [E.out]; rfl, WW.out⟩
  · have E : Hid (leafEv q ⟨6, n, N, A⟩ = q.rd) := hid rfl
    go_wp2_with fail
    go_ret
    exact ⟨by rw [E.out]; rfl, WW.out⟩
  · obtain ⟨f0, f1, f2⟩ := F7.out rfl
    obtain ⟨v, hv⟩ : ∃ v : Nat, n = (v : Int) := ⟨n.toNat, by omega⟩
    subst hv
    have E : Hid (leafEv q ⟨7, (v : Int), N, A⟩ = (decide ((v : Int) ≤ 8 * (q.F.length : Int)) && decide (Al q.F A v))) := hid rfl
    obtain ⟨r, hr⟩ : ∃ r, (decide ((v : Int) ≤ 8 * (q.F.length : Int)) && decide (Al q.F A v)) = r := ⟨_, rfl⟩
    have CB := hid (begins_at r q.F A v W1 QQ.out.2.1 QQ.out.2.2.2.2.2 DD.out HZ.out rfl rfl (by omega) f2 hr)
    rw [hr] at E
    clear hr
    go_wp2_with fail
    refine CB.out.mono ?_
    rintro e w2 ⟨rfl, d⟩
    have W2 := hid (WW.out.trans (d.below _))
    clear d
    go_wp2_with fail
    go_ret
    exact ⟨by rw [E.out]; rfl, W2.out⟩

end Go.Proofs.Ytnbabdfcamdapaa.Ru
