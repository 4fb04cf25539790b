/-
  The walks of package rr's small functions: fits, number (bytes as a number, the highest one first), appendTwo; a struct in memory; a piece of some bytes.
-/
import Derived.Test.YtnbabdfcamdapaaMsgAt
import Derived.Deep.DeepAppendWide
namespace Go.Proofs.Ytnbabdfcamdapaa
open Go.RowKit Go.Deep

/-- A block holds these cells, of this type. -/
def Bl (t : TypeId) (w : World) (b : Nat) (C : Array Value) : Prop := w.heap[b]? = some (.cells C t)

theorem Bl.lt {t : TypeId} {w : World} {b : Nat} {C : Array Value} (h : Bl t w b C) : b < w.heap.size := by
  rcases Nat.lt_or_ge b w.heap.size with q | q
  · exact q
  · unfold Bl at h; rw [Array.getElem?_eq_none q] at h; cases h

theorem Bl.cell {t : TypeId} {w : World} {b : Nat} {C : Array Value} (h : Bl t w b C) {i : Nat} {v : Value} (hv : C[i]? = some v) : w.cell? ⟨b, i, none⟩ = some v := by
  unfold Bl at h
  simp [World.cell?, h, hv]

theorem Bl.frozen {t : TypeId} {w : World} {b : Nat} {C : Array Value} (h : Bl t w b C) (i : Nat) : w.frozen? ⟨b, i, none⟩ = false := by
  unfold Bl at h
  simp [World.frozen?, h]

theorem Bl.set {t : TypeId} {w : World} {b : Nat} {C : Array Value} (h : Bl t w b C) (j : Nat) (v : Value) : Bl t (w.setCell ⟨b, j, none⟩ v) b (C.setIfInBounds j v) := by
  unfold Bl at h ⊢
  simp [World.setCell, Array.getElem?_modify, h]

theorem Bl.far {t : TypeId} {w : World} {b : Nat} {C : Array Value} (h : Bl t w b C) {p : Addr} (hp : ¬ b = p.block) (v : Value) : Bl t (w.setCell p v) b C := by
  unfold Bl at h ⊢
  rw [Below.heap_setCell _ _ _ _ hp, h]

theorem Bl.below {t : TypeId} {w w' : World} {b : Nat} {C : Array Value} (h : Bl t w b C) (k : Below w.heap.size w w') : Bl t w' b C := by
  have := h.lt
  unfold Bl at h ⊢
  rw [k.block b this, h]

theorem Bl.under {t : TypeId} {w w' : World} {b B : Nat} {C : Array Value} (h : Bl t w b C) (hb : b < B) (k : Below B w w') : Bl t w' b C := by
  unfold Bl at h ⊢
  rw [k.block b hb, h]

theorem Bl.new (t : TypeId) (w : World) (C : Array Value) : Bl t (w.alloc (.cells C t)) w.heap.size C := heap_alloc_new w _

theorem Bl.drewN {t : TypeId} {w : World} {b : Nat} {C : Array Value} (h : Bl t w b C) (n : Nat) : Bl t (w.drewN n) b C := h

theorem Bl.drew {t : TypeId} {w : World} {b : Nat} {C : Array Value} (h : Bl t w b C) : Bl t w.drew b C := h

/-- A piece of some bytes. -/
theorem bys_sub {w : World} {b off c : Nat} {ms : List Int} (hlt : b < w.heap.size) (hc : ms.length ≤ c) (hl : ms.length ≤ 200000000000000) (hbs : ∀ x ∈ ms, 0 ≤ x ∧ x ≤ 255)
    (q : ∀ i, i < ms.length → w.cell? ⟨b, off + i, none⟩ = some (.int .u8 (ms.getD i 0))) (i k : Nat) (hik : i + k ≤ ms.length) : Bys w (some ⟨b, off + i, none⟩) (c - i) (Nm.cut ms i k) := by
  have hk : (Nm.cut ms i k).length = k := Nm.cut_length (by omega)
  refine ⟨by omega, by omega, fun x hx => hbs x ?_, Or.inr ⟨b, off + i, rfl, hlt, fun j hj => ?_⟩⟩
  · unfold Nm.cut at hx
    exact List.mem_of_mem_drop (List.mem_of_mem_take hx)
  · rw [hk] at hj
    rw [cut_getD hj, Nat.add_assoc]
    exact q _ (by omega)

theorem rfits_at (b : Bool) (n m : Int) (w : World) (h : decide (0 ≤ n ∧ n ≤ m) = b) :
    Calls Try.prog 24 #[.int .i64 n, .int .i64 m] w fun e w' => e = .returned (.bool b) ∧ w = w' := by
  subst h
  by_cases c1 : 0 ≤ n
  · by_cases c2 : n ≤ m
    · rw [decide_eq_true (by exact ⟨c1, c2⟩)]
      go_enter Try.func24, Try.ntmps24
      go_wp2
      go_ret
      exact ⟨rfl, rfl⟩
    · rw [decide_eq_false (by omega)]
      go_enter Try.func24, Try.ntmps24
      go_wp2
      go_ret
      exact ⟨rfl, rfl⟩
  · rw [decide_eq_false (by omega)]
    go_enter Try.func24, Try.ntmps24
    go_wp2
    go_ret
    exact ⟨rfl, rfl⟩

/-- The number of some bytes, the highest one first. -/
def numN (ms : List Int) : Int := ms.foldl (fun n c => n * 256 + c) 0

theorem num_snoc (ms : List Int) (c : Int) : numN (ms ++ [c]) = numN ms * 256 + c := by
  unfold numN
  rw [List.foldl_append]
  rfl

theorem take_snoc {ms : List Int} {k : Nat} (hk : k < ms.length) : ms.take (k + 1) = ms.take k ++ [ms.getD k 0] := by
  rw [List.take_succ_eq_append_getElem hk, List.getD_eq_getElem?_getD, List.getElem?_eq_getElem hk]
  rfl

theorem num_next {ms : List Int} {k : Nat} (hk : k < ms.length) : numN (ms.take (k + 1)) = numN (ms.take k) * 256 + ms.getD k 0 := by
  rw [take_snoc hk, num_snoc]

theorem num_bound {ms : List Int} (hb : ∀ b ∈ ms, 0 ≤ b ∧ b ≤ 255) (k : Nat) (hk : k ≤ ms.length) : 0 ≤ numN (ms.take k) ∧ numN (ms.take k) < 256 ^ k := by
  induction k with
  | zero => simp [numN]
  | succ k ih =>
    obtain ⟨h1, h2⟩ := ih (by omega)
    have := getD_byte hb k
    rw [num_next (by omega), Int.pow_succ]
    omega

theorem or_num (x t : Int) (h0 : 0 ≤ x) (h1 : x < 16777216) (h2 : 0 ≤ t) (h3 : t ≤ 255) : bits .or .i64 (x * 256) t = x * 256 + t :=
  bits_join .i64 62 (by decide) wrap_i64 8 (x * 256) t (by omega) (by omega) (by omega) h2 (by omega) (by omega)

theorem num_small {ms : List Int} (hb : ∀ b ∈ ms, 0 ≤ b ∧ b ≤ 255) {k : Nat} (hk : k < ms.length) (h4 : ms.length ≤ 4) : 0 ≤ numN (ms.take k) ∧ numN (ms.take k) < 16777216 := by
  obtain ⟨h1, h2⟩ := num_bound hb k (by omega)
  refine ⟨h1, ?_⟩
  have : (256 : Int) ^ k ≤ 256 ^ 3 := by
    have h3 : k = 0 ∨ k = 1 ∨ k = 2 ∨ k = 3 := by omega
    rcases h3 with rfl | rfl | rfl | rfl <;> decide
  have e : (256 : Int) ^ 3 = 16777216 := by decide
  omega

/-- A number's lowest two bytes. -/
def twoN (n : Int) : List Int := [n / 256 % 256, n % 256]

end Go.Proofs.Ytnbabdfcamdapaa
