/-
  Plain facts on buckets: what may be, filled, taken from; waiting in pieces, taking in parts, no more than so many.
-/
namespace Go.Proofs.YtlmhcjkkdgdbjaaDoor.Bu

/-- A bucket: so many a tick, so many at most, so many at a tick. -/
structure Bk where
  rate : Int
  burst : Int
  has : Int
  at' : Int

def tk (n : Int) : Prop := 0 ≤ n ∧ n ≤ 2147483647

instance (n : Int) : Decidable (tk n) := by unfold tk; infer_instance

/-- A bucket that may be. -/
def ok (b : Bk) : Prop := tk b.rate ∧ tk b.burst ∧ tk b.has ∧ tk b.at' ∧ b.has ≤ b.burst

instance (b : Bk) : Decidable (ok b) := by unfold ok; infer_instance

/-- What is wrong with a bucket. -/
def okE (b : Bk) : Int := if ok b then 0 else 6

/-- It can be filled at a tick. -/
def fits (b : Bk) (now : Int) : Prop := ok b ∧ b.at' ≤ now ∧ now ≤ 2147483647

instance (b : Bk) (now : Int) : Decidable (fits b now) := by unfold fits; infer_instance

def fillE (b : Bk) (now : Int) : Int := if fits b now then 0 else 6

/-- So many at a tick. -/
def hasAt (b : Bk) (now : Int) : Int := if b.burst < b.has + b.rate * (now - b.at') then b.burst else b.has + b.rate * (now - b.at')

def fill (b : Bk) (now : Int) : Bk := ⟨b.rate, b.burst, hasAt b now, now⟩

theorem grows {r d : Int} (hr : 0 ≤ r) (hd : 0 ≤ d) : 0 ≤ r * d := Int.mul_nonneg hr hd

/-- The product fits in a word. -/
theorem fits_word {r d : Int} (hr : tk r) (hd : 0 ≤ d) (hd2 : d ≤ 2147483647) : 0 ≤ r * d ∧ r * d ≤ 4611686014132420609 := by
  refine ⟨grows hr.1 hd, ?_⟩
  have h1 : r * d ≤ 2147483647 * d := Int.mul_le_mul_of_nonneg_right hr.2 hd
  omega

theorem hasAt_bounds {b : Bk} {now : Int} (h : fits b now) : b.has ≤ hasAt b now ∧ 0 ≤ hasAt b now ∧ hasAt b now ≤ b.burst := by
  obtain ⟨⟨h1, h2, h3, h4, h5⟩, h6, h7⟩ := h
  have g := grows h1.1 (show 0 ≤ now - b.at' by omega)
  unfold hasAt
  unfold tk at *
  split <;> omega

theorem fill_ok {b : Bk} {now : Int} (h : fits b now) : ok (fill b now) := by
  have g := hasAt_bounds h
  obtain ⟨⟨h1, h2, h3, h4, h5⟩, h6, h7⟩ := h
  unfold ok fill
  unfold tk at *
  simp only
  omega

theorem mul_split (r a n l : Int) : r * (n - a) + r * (l - n) = r * (l - a) := by
  rw [← Int.mul_add]
  congr 1
  omega

/-- Filled at one time and then at a later one it is as filled at the later one. -/
theorem fill_fill {b : Bk} {n l : Int} (h : fits b n) (k : fits (fill b n) l) : fits b l ∧ fill (fill b n) l = fill b l := by
  obtain ⟨h0, h6, h7⟩ := h
  obtain ⟨_, k1, k2⟩ := k
  simp only [fill] at k1
  refine ⟨⟨h0, by omega, k2⟩, ?_⟩
  have m := mul_split b.rate b.at' n l
  have g := grows h0.1.1 (show 0 ≤ l - n by omega)
  have e : hasAt (fill b n) l = hasAt b l := by
    unfold hasAt fill
    simp only
    unfold hasAt
    split <;> split <;> split <;> omega
  unfold fill at *
  simp only at e ⊢
  rw [e]

/-- Who has no less has no less later. -/
theorem fill_more {b : Bk} {c l : Int} (hc : b.has ≤ c) : hasAt b l ≤ hasAt ⟨b.rate, b.burst, c, b.at'⟩ l := by
  unfold hasAt
  simp only
  split <;> split <;> omega

/-! ### taken -/

def takeE (b : Bk) (now n : Int) : Int := if fits b now ∧ 0 ≤ n then 0 else 6

/-- Are there so many? -/
def isT (b : Bk) (now n : Int) : Bool := decide (n ≤ hasAt b now)

def take (b : Bk) (now n : Int) : Bk := if n ≤ hasAt b now then ⟨b.rate, b.burst, hasAt b now - n, now⟩ else fill b now

theorem take_ok {b : Bk} {now n : Int} (h : fits b now) (hn : 0 ≤ n) : ok (take b now n) := by
  have g := hasAt_bounds h
  have f := fill_ok h
  unfold take
  split
  · obtain ⟨⟨h1, h2, h3, h4, h5⟩, h6, h7⟩ := h
    unfold ok
    unfold tk at *
    simp only
    omega
  · exact f

theorem take_at (b : Bk) (now n : Int) : (take b now n).at' = now ∧ (take b now n).rate = b.rate ∧ (take b now n).burst = b.burst := by
  unfold take
  split
  · exact ⟨rfl, rfl, rfl⟩
  · exact ⟨rfl, rfl, rfl⟩

/-- What was taken. -/
def tookN (b : Bk) (now n : Int) : Int := if n ≤ hasAt b now then n else 0

theorem take_has (b : Bk) (now n : Int) : (take b now n).has + tookN b now n = hasAt b now := by
  unfold take tookN
  split
  · simp only; omega
  · simp only [fill]; omega

theorem took_pos {b : Bk} {now n : Int} (hn : 0 ≤ n) : 0 ≤ tookN b now n := by unfold tookN; split <;> omega

theorem take_now {b : Bk} {now n : Int} (h : fits b now) (hn : 0 ≤ n) : hasAt (take b now n) now = (take b now n).has := by
  have hb := take_ok h hn
  have e := take_at b now n
  unfold hasAt
  rw [e.1, Int.sub_self, Int.mul_zero]
  have := hb.2.2.2.2
  split <;> omega

/-- Two numbers, one behind the other, are taken just if both together would be. -/
theorem take_two {b : Bk} {now n m : Int} (h : fits b now) (hn : 0 ≤ n) (hm : 0 ≤ m) :
    (isT b now n = true ∧ isT (take b now n) now m = true ↔ isT b now (n + m) = true) ∧ (isT b now (n + m) = true → take (take b now n) now m = take b now (n + m)) := by
  have hd := take_now h hn
  have hh := take_has b now n
  have e := take_at b now n
  unfold isT
  simp only [decide_eq_true_eq]
  rw [hd]
  unfold tookN at hh
  refine ⟨⟨fun ⟨q1, q2⟩ => ?_, fun q => ?_⟩, fun q => ?_⟩
  · rw [if_pos q1] at hh; omega
  · have q1 : n ≤ hasAt b now := by omega
    rw [if_pos q1] at hh
    exact ⟨q1, by omega⟩
  · have q1 : n ≤ hasAt b now := by omega
    rw [if_pos q1] at hh
    have key : ∀ t : Bk, hasAt t now = t.has → t.rate = b.rate → t.burst = b.burst → m ≤ t.has → t.has - m = hasAt b now - (n + m) → take t now m = ⟨b.rate, b.burst, hasAt b now - (n + m), now⟩ := by
      intro t u1 u2 u3 u4 u5
      unfold take
      rw [u1, if_pos u4, u2, u3, u5]
    rw [key _ hd e.2.1 e.2.2 (by omega) (by omega)]
    unfold take
    rw [if_pos q]

/-! ### no more than so many -/

/-- What was taken from the k-th time on. -/
def sumT (T : List Int) (k : Nat) : Int := (T.drop k).foldr (· + ·) 0

theorem sumT_snoc {T : List Int} {x : Int} {k : Nat} (hk : k ≤ T.length) : sumT (T ++ [x]) k = sumT T k + x := by
  unfold sumT
  rw [List.drop_append_of_le_length hk, List.foldr_append]
  simp only [List.foldr_cons, List.foldr_nil]
  generalize T.drop k = L
  induction L with
  | nil => simp
  | cons a l ih => simp only [List.foldr_cons]; rw [ih]; omega

theorem sumT_end (T : List Int) : sumT T T.length = 0 := by unfold sumT; rw [List.drop_length]; rfl

theorem sumT_at {T : List Int} {k : Nat} (hk : k < T.length) : sumT T k = T[k] + sumT T (k + 1) := by
  unfold sumT
  rw [List.drop_eq_getElem_cons hk]
  rfl

/-- What holds behind each take: with what it still has no more than so many. -/
def Bound (b : Bk) (A T : List Int) : Prop := A.length = T.length ∧ (∀ x ∈ A, x ≤ b.at') ∧ ∀ k (h : k < A.length), sumT T k + b.has ≤ b.burst + b.rate * (b.at' - A[k])

theorem Bound.nil (b : Bk) : Bound b [] [] := ⟨rfl, fun x hx => by simp at hx, fun k h => by simp at h⟩

theorem Bound.next {b : Bk} {A T : List Int} {now n : Int} (h : Bound b A T) (f : fits b now) : Bound (take b now n) (A ++ [now]) (T ++ [tookN b now n]) := by
  obtain ⟨h1, h2, h3⟩ := h
  have e := take_at b now n
  have hh := take_has b now n
  have g := hasAt_bounds f
  refine ⟨by simp [h1], fun x hx => ?_, fun k hk => ?_⟩
  · rw [e.1]
    rcases List.mem_append.1 hx with q | q
    · have := h2 x q; have := f.2.1; omega
    · rw [List.mem_singleton.1 q]; omega
  · rw [e.1, e.2.1, e.2.2]
    rw [List.length_append, List.length_singleton] at hk
    by_cases c : k < A.length
    · rw [sumT_snoc (by omega), List.getElem_append_left c]
      have q := h3 k c
      have m := mul_split b.rate A[k] b.at' now
      have u : hasAt b now ≤ b.has + b.rate * (now - b.at') := by unfold hasAt; split <;> omega
      omega
    · have ek : k = A.length := by omega
      subst ek
      have z : sumT T A.length = 0 := by rw [h1]; exact sumT_end T
      have y : (A ++ [now])[A.length] = now := by rw [List.getElem_append_right (Nat.le_refl _)]; simp
      rw [sumT_snoc (by omega), z, y, Int.sub_self, Int.mul_zero]
      omega

end Go.Proofs.YtlmhcjkkdgdbjaaDoor.Bu
