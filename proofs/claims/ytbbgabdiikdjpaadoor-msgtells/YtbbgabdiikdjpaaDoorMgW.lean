/-
  Plain: how the parts of a message are written: the table of names that stand already, what is appended for a name, the state behind each part.
-/
import Derived.Test.YtbbgabdiikdjpaaDoorMg
namespace Go.Proofs.YtbbgabdiikdjpaaDoor
open Go.RowKit Go.Deep

/-- The place at which just these labels stand, by a table. -/
def findT : List (Int × List ByteArray) → List ByteArray → Option Int
  | [], _ => none
  | e :: t, m => if e.2 = m then some e.1 else findT t m

/-- How many labels stand ahead of those that stand already, and at which place these do. -/
def bestT (tab : List (Int × List ByteArray)) : List ByteArray → Option (Nat × Int)
  | [] => none
  | l :: n => match findT tab (l :: n) with
    | some p => some (0, p)
    | none => (bestT tab n).map (fun e => (e.1 + 1, e.2))

theorem findT_none {tab : List (Int × List ByteArray)} {m : List ByteArray} (h : findT tab m = none) : ∀ e ∈ tab, ¬ e.2 = m := by
  induction tab with
  | nil => intro e he; simp at he
  | cons x t ih =>
    unfold findT at h
    by_cases c : x.2 = m
    · rw [if_pos c] at h; cases h
    · rw [if_neg c] at h
      intro e he
      rcases List.mem_cons.1 he with q | q
      · rw [q]; exact c
      · exact ih h e q

theorem findT_some {tab : List (Int × List ByteArray)} {m : List ByteArray} {p : Int} (h : findT tab m = some p) : (p, m) ∈ tab := by
  induction tab with
  | nil => cases h
  | cons x t ih =>
    unfold findT at h
    by_cases c : x.2 = m
    · rw [if_pos c] at h; cases h; rw [← c]; exact List.mem_cons_self
    · rw [if_neg c] at h; exact List.mem_cons_of_mem _ (ih h)

theorem findT_append (t u : List (Int × List ByteArray)) (m : List ByteArray) : findT (t ++ u) m = match findT t m with | some p => some p | none => findT u m := by
  induction t with
  | nil => rfl
  | cons x t ih =>
    by_cases c : x.2 = m
    · simp only [List.cons_append, findT, if_pos c]
    · simp only [List.cons_append, findT, if_neg c]
      exact ih

theorem findT_of_none {tab : List (Int × List ByteArray)} {m : List ByteArray} (h : ∀ e ∈ tab, ¬ e.2 = m) : findT tab m = none := by
  cases q : findT tab m with
  | none => rfl
  | some p => exact absurd rfl (h _ (findT_some q))

theorem best_some {tab : List (Int × List ByteArray)} : ∀ {n : List ByteArray} {k : Nat} {p : Int}, bestT tab n = some (k, p) → k < n.length ∧ findT tab (n.drop k) = some p ∧ ∀ j, j < k → findT tab (n.drop j) = none := by
  intro n
  induction n with
  | nil => intro k p h; cases h
  | cons l n ih =>
    intro k p h
    unfold bestT at h
    cases q : findT tab (l :: n) with
    | some p0 =>
      rw [q] at h
      simp only [Option.some.injEq, Prod.mk.injEq] at h
      obtain ⟨rfl, rfl⟩ := h
      exact ⟨by simp, q, fun j hj => by omega⟩
    | none =>
      rw [q] at h
      simp only at h
      cases r : bestT tab n with
      | none => rw [r] at h; cases h
      | some e =>
        obtain ⟨k0, p0⟩ := e
        rw [r] at h
        simp only [Option.map_some, Option.some.injEq, Prod.mk.injEq] at h
        obtain ⟨rfl, rfl⟩ := h
        obtain ⟨i1, i2, i3⟩ := ih r
        refine ⟨by rw [List.length_cons]; omega, by rw [List.drop_succ_cons]; exact i2, fun j hj => ?_⟩
        cases j with
        | zero => exact q
        | succ j => rw [List.drop_succ_cons]; exact i3 j (by omega)

theorem best_none {tab : List (Int × List ByteArray)} : ∀ {n : List ByteArray}, bestT tab n = none → ∀ j, j < n.length → findT tab (n.drop j) = none := by
  intro n
  induction n with
  | nil => intro h j hj; simp at hj
  | cons l n ih =>
    intro h j hj
    unfold bestT at h
    cases q : findT tab (l :: n) with
    | some p0 => rw [q] at h; cases h
    | none =>
      rw [q] at h
      simp only at h
      cases r : bestT tab n with
      | some e => rw [r] at h; cases h
      | none =>
        cases j with
        | zero => exact q
        | succ j => rw [List.drop_succ_cons]; exact ih r j (by simpa using hj)

/-- How many labels are written. -/
def keptN (tab : List (Int × List ByteArray)) (n : List ByteArray) : Nat := match bestT tab n with | some (k, _) => k | none => n.length

/-- The bytes that are written for a name. -/
def packB (tab : List (Int × List ByteArray)) (n : List ByteArray) : List Int :=
  match bestT tab n with
  | some (k, p) => Nm.sentL ((n.map Nm.bs).take k) ++ [192 + p / 256, p % 256]
  | none => Nm.sentL (n.map Nm.bs) ++ [0]

/-- The starts that are told for the first labels. -/
def newT (len : Nat) (n : List ByteArray) (k : Nat) : List (Int × List ByteArray) :=
  (List.range k).filterMap fun i => if len + Nm.total ((n.map Nm.bs).take i) ≤ 16383 then some (((len + Nm.total ((n.map Nm.bs).take i) : Nat) : Int), n.drop i) else none

theorem new_fst (len : Nat) (n : List ByteArray) (k : Nat) : (newT len n k).map (·.1) = placesN len (n.map Nm.bs) k := by
  unfold newT placesN
  rw [List.map_filterMap]
  congr 1
  funext i
  by_cases c : len + Nm.total ((n.map Nm.bs).take i) ≤ 16383
  · rw [if_pos c, if_pos c]; rfl
  · rw [if_neg c, if_neg c]; rfl

theorem new_mem {len : Nat} {n : List ByteArray} {k : Nat} {e : Int × List ByteArray} (h : e ∈ newT len n k) : ∃ i, i < k ∧ len + Nm.total ((n.map Nm.bs).take i) ≤ 16383 ∧ e = (((len + Nm.total ((n.map Nm.bs).take i) : Nat) : Int), n.drop i) := by
  unfold newT at h
  obtain ⟨i, hi, he⟩ := List.mem_filterMap.1 h
  by_cases c : len + Nm.total ((n.map Nm.bs).take i) ≤ 16383
  · rw [if_pos c] at he
    cases he
    exact ⟨i, List.mem_range.1 hi, c, rfl⟩
  · rw [if_neg c] at he; cases he

theorem new_yes (len : Nat) (n : List ByteArray) (k : Nat) (h : len + Nm.total ((n.map Nm.bs).take k) ≤ 16383) : newT len n (k + 1) = newT len n k ++ [(((len + Nm.total ((n.map Nm.bs).take k) : Nat) : Int), n.drop k)] := by
  unfold newT
  rw [List.range_succ, List.filterMap_append, List.filterMap_cons, if_pos h]
  rfl

theorem new_no (len : Nat) (n : List ByteArray) (k : Nat) (h : ¬ len + Nm.total ((n.map Nm.bs).take k) ≤ 16383) : newT len n (k + 1) = newT len n k := by
  unfold newT
  rw [List.range_succ, List.filterMap_append, List.filterMap_cons, if_neg h]
  simp

/-- The starts that are told are those of the first labels, as many as can be told. -/
theorem new_row (len : Nat) (n : List ByteArray) (k : Nat) : ∃ j, j ≤ k ∧ newT len n k = (List.range j).map (fun i => (((len + Nm.total ((n.map Nm.bs).take i) : Nat) : Int), n.drop i)) ∧ (j < k → ¬ len + Nm.total ((n.map Nm.bs).take j) ≤ 16383) := by
  induction k with
  | zero => exact ⟨0, Nat.le_refl _, rfl, fun q => by omega⟩
  | succ k ih =>
    obtain ⟨j, h1, h2, h3⟩ := ih
    by_cases c : len + Nm.total ((n.map Nm.bs).take k) ≤ 16383
    · have hj : j = k := by
        rcases Nat.lt_or_ge j k with q | q
        · have := h3 q
          have := total_mono (n.map Nm.bs) h1
          omega
        · omega
      subst hj
      refine ⟨j + 1, Nat.le_refl _, ?_, fun q => by omega⟩
      rw [new_yes len n j c, h2, List.range_succ, List.map_append]
      rfl
    · refine ⟨j, by omega, by rw [new_no len n k c, h2], fun _ => ?_⟩
      rcases Nat.lt_or_ge j k with q | q
      · exact h3 q
      · have : j = k := by omega
        rw [this]; exact c

theorem check_of {L : List (List Int)} (h1 : L.all Nm.okL = true) (h2 : Nm.total L ≤ 254) : Nm.checkN L = 0 := by
  unfold Nm.checkN
  rw [if_pos h1, if_neg (by omega)]

theorem check_drop {n : List ByteArray} (h : Nm.checkN (n.map Nm.bs) = 0) (i : Nat) : Nm.checkN ((n.drop i).map Nm.bs) = 0 := by
  obtain ⟨h1, h2⟩ := check_zero h
  rw [List.map_drop]
  refine check_of (drop_ok h1 i) ?_
  have := total_split (n.map Nm.bs) i
  omega

/-- A name as it is sent without pointers, as a text. -/
def keyS (m : List ByteArray) : ByteArray := strOfNums (Nm.sentL (m.map Nm.bs) ++ [0])

theorem names_bytes (n : List ByteArray) : ∀ l ∈ n.map Nm.bs, ∀ x ∈ l, 0 ≤ x ∧ x ≤ 255 := by
  intro l hl x hx
  obtain ⟨s, _, rfl⟩ := List.mem_map.1 hl
  exact bs_bound s x hx

theorem sent_ok {n : List ByteArray} (h : Nm.checkN (n.map Nm.bs) = 0) : ∀ b ∈ Nm.sentL (n.map Nm.bs) ++ [0], 0 ≤ b ∧ b ≤ 255 := by
  intro b q
  rcases List.mem_append.1 q with q | q
  · exact sent_bytes _ (check_zero h).1 (names_bytes n) b q
  · rw [List.mem_singleton.1 q]; omega

theorem key_bs {n : List ByteArray} (h : Nm.checkN (n.map Nm.bs) = 0) : Nm.bs (keyS n) = Nm.sentL (n.map Nm.bs) ++ [0] := bs_of _ (sent_ok h)

theorem map_nums (n : List ByteArray) : (n.map Nm.bs).map strOfNums = n := by
  rw [List.map_map]
  conv => rhs; rw [← List.map_id n]
  congr 1
  funext s
  exact nums_bs s

theorem key_inj {n m : List ByteArray} (h : Nm.checkN (n.map Nm.bs) = 0) (k : Nm.checkN (m.map Nm.bs) = 0) (e : keyS n = keyS m) : n = m := by
  have e1 : Nm.sentL (n.map Nm.bs) ++ [0] = Nm.sentL (m.map Nm.bs) ++ [0] := by rw [← key_bs h, ← key_bs k, e]
  have r1 := read_written (ms := []) (n := n.map Nm.bs) (by simp) h
  have r2 := read_written (ms := []) (n := m.map Nm.bs) (by simp) k
  simp only [List.nil_append, List.length_nil] at r1 r2
  rw [e1] at r1
  rw [r1] at r2
  simp only [Prod.mk.injEq, true_and] at r2
  rw [← map_nums n, r2.1, map_nums m]

theorem key_size {n : List ByteArray} (h : Nm.checkN (n.map Nm.bs) = 0) : (keyS n).size ≤ 255 := by
  rw [← bs_length, key_bs h, List.length_append, Nm.sentL_length]
  have := (check_zero h).2
  simp
  omega

/-- Each name of the table stands at its place. -/
def TabOk (out : List Int) (tab : List (Int × List ByteArray)) : Prop :=
  ∀ e ∈ tab, (0 ≤ e.1 ∧ e.1 ≤ 16383) ∧ ¬ e.2 = [] ∧ Nm.checkN (e.2.map Nm.bs) = 0 ∧ ∃ m, readW out e.1 = (0, e.2.map Nm.bs, m)

theorem TabOk.nil (out : List Int) : TabOk out [] := fun e he => by simp at he

theorem TabOk.more {out : List Int} {tab : List (Int × List ByteArray)} (h : TabOk out tab) (more : List Int) : TabOk (out ++ more) tab := by
  intro e he
  obtain ⟨h1, h2, h3, m, h4⟩ := h e he
  exact ⟨h1, h2, h3, m, readW_behind more h4⟩

/-- The start that is handed on. -/
def startsT (tab : List (Int × List ByteArray)) (n : List ByteArray) : List Int := match bestT tab n with | some (_, p) => [p] | none => []

theorem look_one {out : List Int} {tab : List (Int × List ByteArray)} {n : List ByteArray} {k : Nat} {p : Int} (ht : TabOk out tab) (hb : bestT tab n = some (k, p)) : lookN out n [p] = ([p], n.length - k, p) := by
  obtain ⟨h1, h2, _⟩ := best_some hb
  obtain ⟨⟨_, b1⟩, _, _, m, hr⟩ := ht _ (findT_some h2)
  simp only at b1 hr
  have hl : ((n.drop k).map Nm.bs).length = n.length - k := by rw [List.length_map, List.length_drop]
  unfold lookN
  rw [List.foldl_cons, List.foldl_nil, look_here hr ⟨b1, by rw [hl]; simp only; omega, ?_⟩, hl]
  · rfl
  · rw [map_nums]
    unfold endsN
    refine decide_eq_true ⟨by rw [List.length_drop]; omega, ?_⟩
    rw [List.length_drop]
    congr 1
    omega

theorem pack_is {out : List Int} {tab : List (Int × List ByteArray)} (n : List ByteArray) (ht : TabOk out tab) :
    packOut out n (startsT tab n) = out ++ packB tab n ∧ packTold out n (startsT tab n) = startsT tab n ++ (newT out.length n (keptN tab n)).map (·.1) := by
  rw [new_fst]
  unfold startsT packB keptN packOut packTold
  cases hb : bestT tab n with
  | none =>
    simp only
    rw [look_nil]
    simp [tailN]
    rw [List.take_of_length_le (by simp)]
  | some e =>
    obtain ⟨k, p⟩ := e
    simp only
    rw [look_one ht hb]
    obtain ⟨h1, _, _⟩ := best_some hb
    have e1 : n.length - (n.length - k) = k := by omega
    have e2 : ¬ n.length - k = 0 := by omega
    simp only [e1, tailN, if_neg e2]
    simp

theorem kept_le (tab : List (Int × List ByteArray)) (n : List ByteArray) : keptN tab n ≤ n.length := by
  unfold keptN
  cases hb : bestT tab n with
  | none => simp
  | some e =>
    obtain ⟨k, p⟩ := e
    have := (best_some hb).1
    simp only
    omega

theorem kept_new (tab : List (Int × List ByteArray)) (n : List ByteArray) : ∀ i, i < keptN tab n → findT tab (n.drop i) = none := by
  intro i hi
  unfold keptN at hi
  cases hb : bestT tab n with
  | none => rw [hb] at hi; exact best_none hb i hi
  | some e =>
    obtain ⟨k, p⟩ := e
    rw [hb] at hi
    exact (best_some hb).2.2 i hi

theorem look_kept {out : List Int} {tab : List (Int × List ByteArray)} (n : List ByteArray) (ht : TabOk out tab) : n.length - (lookN out n (startsT tab n)).2.1 = keptN tab n := by
  unfold startsT keptN
  cases hb : bestT tab n with
  | none => simp [look_nil]
  | some e =>
    obtain ⟨k, p⟩ := e
    have := (best_some hb).1
    simp only
    rw [look_one ht hb]
    simp only
    omega

theorem packB_bytes {out : List Int} {tab : List (Int × List ByteArray)} {n : List ByteArray} (ht : TabOk out tab) (hk : Nm.checkN (n.map Nm.bs) = 0) : ∀ b ∈ packB tab n, 0 ≤ b ∧ b ≤ 255 := by
  unfold packB
  cases hb : bestT tab n with
  | none => exact sent_ok hk
  | some e =>
    obtain ⟨k, p⟩ := e
    obtain ⟨_, h2, _⟩ := best_some hb
    obtain ⟨⟨b0, b1⟩, _⟩ := ht _ (findT_some h2)
    simp only at b0 b1
    have h := pack_bytes (ms := []) (n := n) (k := k) (count := 1) (to := p) (by simp) hk (fun _ => ⟨b0, b1⟩)
    simpa [tailN] using h

theorem packB_len (tab : List (Int × List ByteArray)) (n : List ByteArray) : 1 ≤ (packB tab n).length ∧ (packB tab n).length ≤ Nm.total (n.map Nm.bs) + 1 := by
  unfold packB
  cases hb : bestT tab n with
  | none => simp [Nm.sentL_length]
  | some e =>
    obtain ⟨k, p⟩ := e
    obtain ⟨h1, _, _⟩ := best_some hb
    simp only [List.length_append, Nm.sentL_length, List.length_cons, List.length_nil]
    have e1 := total_split (n.map Nm.bs) k
    have e2 : 1 ≤ Nm.total ((n.map Nm.bs).drop k) := by
      have hl : 0 < ((n.map Nm.bs).drop k).length := by rw [List.length_drop, List.length_map]; omega
      match hd : (n.map Nm.bs).drop k, hl with
      | x :: xs, _ => rw [Nm.total_cons]; omega
    omega

/-- A name that was written is read, and so are its last labels at the starts that were told. -/
theorem tab_next {out : List Int} {tab : List (Int × List ByteArray)} {n : List ByteArray} (hb : ∀ b ∈ out, 0 ≤ b ∧ b ≤ 255) (ht : TabOk out tab) (hk : Nm.checkN (n.map Nm.bs) = 0) (more : List Int) :
    readW (out ++ packB tab n ++ more) (out.length : Int) = (0, n.map Nm.bs, (out ++ packB tab n).length) ∧ TabOk (out ++ packB tab n ++ more) (tab ++ newT out.length n (keptN tab n)) := by
  have hp := (pack_is n ht).1
  have hR : ∀ i, i ≤ keptN tab n → readW (out ++ packB tab n ++ more) ((out.length + Nm.total ((n.map Nm.bs).take i) : Nat) : Int) = (0, (n.map Nm.bs).drop i, (out ++ packB tab n).length) := by
    intro i hi
    have r := read_packed (ms := out) (starts := startsT tab n) hb hk i (by rw [look_kept n ht]; exact hi)
    rw [hp] at r
    exact readW_behind more r
  refine ⟨?_, fun e he => ?_⟩
  · have := hR 0 (Nat.zero_le _)
    simpa [Nm.total] using this
  · rcases List.mem_append.1 he with he | he
    · obtain ⟨h1, h2, h3, m, h4⟩ := ht e he
      rw [List.append_assoc]
      exact ⟨h1, h2, h3, m, readW_behind _ h4⟩
    · obtain ⟨i, hi, hl, rfl⟩ := new_mem he
      have hl2 := kept_le tab n
      refine ⟨by simp only; omega, fun q => ?_, check_drop hk i, (out ++ packB tab n).length, ?_⟩
      · simp only at q
        have : (n.drop i).length = 0 := by rw [q]; rfl
        rw [List.length_drop] at this
        omega
      · simp only
        rw [List.map_drop]
        exact hR i (by omega)

/-- The state behind a question, and behind a record: the bytes, and the table of names. -/
def stepQ (s : List Int × List (Int × List ByteArray)) (q : Qn) : List Int × List (Int × List ByteArray) :=
  (s.1 ++ packB s.2 q.N ++ (twoN q.ty ++ twoN q.cl), s.2 ++ newT s.1.length q.N (keptN s.2 q.N))

def stepR (s : List Int × List (Int × List ByteArray)) (r : Rn) : List Int × List (Int × List ByteArray) :=
  (s.1 ++ packB s.2 r.N ++ fieldsN r.ty r.cl r.ttl r.D, s.2 ++ newT s.1.length r.N (keptN s.2 r.N))

/-- What is wrong with a question, with a record. -/
def qE (q : Qn) : Int := if ¬ Nm.checkN (q.N.map Nm.bs) = 0 then Nm.checkN (q.N.map Nm.bs) else if ¬ ((0 ≤ q.ty ∧ q.ty ≤ 65535) ∧ (0 ≤ q.cl ∧ q.cl ≤ 65535)) then 6 else 0

def rE (r : Rn) : Int := recE r.N r.ty r.cl r.ttl r.D

/-- The first thing that is wrong. -/
def firstE {α : Type} (f : α → Int) : List α → Int
  | [] => 0
  | x :: xs => if ¬ f x = 0 then f x else firstE f xs

/-- A good state: bytes are bytes, each name of the table stands at its place. -/
def Good (s : List Int × List (Int × List ByteArray)) : Prop := (∀ b ∈ s.1, 0 ≤ b ∧ b ≤ 255) ∧ TabOk s.1 s.2 ∧ s.2.length ≤ s.1.length

theorem count_le_total (L : List (List Int)) : L.length ≤ Nm.total L := by
  induction L with
  | nil => simp
  | cons a l ih => rw [Nm.total_cons, List.length_cons]; omega

theorem new_len (len : Nat) (tab : List (Int × List ByteArray)) (n : List ByteArray) : (newT len n (keptN tab n)).length ≤ (packB tab n).length := by
  obtain ⟨j, h1, h2, _⟩ := new_row len n (keptN tab n)
  rw [h2, List.length_map, List.length_range]
  refine Nat.le_trans h1 ?_
  unfold keptN packB
  cases hb : bestT tab n with
  | none =>
    simp only [List.length_append, Nm.sentL_length]
    have := count_le_total (n.map Nm.bs)
    rw [List.length_map] at this
    omega
  | some e =>
    obtain ⟨k, p⟩ := e
    have h3 := (best_some hb).1
    simp only [List.length_append, Nm.sentL_length]
    have := count_le_total ((n.map Nm.bs).take k)
    rw [List.length_take, List.length_map] at this
    omega

theorem qE_zero {q : Qn} (h : qE q = 0) : Nm.checkN (q.N.map Nm.bs) = 0 ∧ (0 ≤ q.ty ∧ q.ty ≤ 65535) ∧ (0 ≤ q.cl ∧ q.cl ≤ 65535) := by
  unfold qE at h
  by_cases c : Nm.checkN (q.N.map Nm.bs) = 0
  · rw [if_neg (by simp [c])] at h
    by_cases d : (0 ≤ q.ty ∧ q.ty ≤ 65535) ∧ (0 ≤ q.cl ∧ q.cl ≤ 65535)
    · exact ⟨c, d⟩
    · rw [if_pos d] at h; simp at h
  · rw [if_pos c] at h; exact absurd h c

theorem good_q {s : List Int × List (Int × List ByteArray)} {q : Qn} (h : Good s) (hq : Nm.checkN (q.N.map Nm.bs) = 0) : Good (stepQ s q) := by
  refine ⟨fun b hb => ?_, (tab_next h.1 h.2.1 hq _).2, ?_⟩
  case refine_2 =>
    have := new_len s.1.length s.2 q.N
    have := h.2.2
    simp only [stepQ, List.length_append]
    omega
  unfold stepQ at hb
  simp only [List.mem_append] at hb
  rcases hb with (hb | hb) | (hb | hb)
  · exact h.1 b hb
  · exact packB_bytes h.2.1 hq b hb
  · exact two_bytes _ b hb
  · exact two_bytes _ b hb

theorem good_r {s : List Int × List (Int × List ByteArray)} {r : Rn} (h : Good s) (hq : Nm.checkN (r.N.map Nm.bs) = 0) (hD : ∀ b ∈ r.D, 0 ≤ b ∧ b ≤ 255) : Good (stepR s r) := by
  refine ⟨fun b hb => ?_, (tab_next h.1 h.2.1 hq _).2, ?_⟩
  case refine_2 =>
    have := new_len s.1.length s.2 r.N
    have := h.2.2
    simp only [stepR, List.length_append]
    omega
  unfold stepR at hb
  simp only [List.mem_append] at hb
  rcases hb with (hb | hb) | hb
  · exact h.1 b hb
  · exact packB_bytes h.2.1 hq b hb
  · exact fields_bytes _ _ _ hD b hb

theorem step_q_len (s : List Int × List (Int × List ByteArray)) (q : Qn) : s.1.length + 5 ≤ (stepQ s q).1.length ∧ (stepQ s q).1.length ≤ s.1.length + Nm.total (q.N.map Nm.bs) + 5 := by
  have := packB_len s.2 q.N
  simp only [stepQ, List.length_append, two_len]
  omega

theorem step_r_len (s : List Int × List (Int × List ByteArray)) (r : Rn) : s.1.length + 11 ≤ (stepR s r).1.length ∧ (stepR s r).1.length ≤ s.1.length + Nm.total (r.N.map Nm.bs) + 11 + r.D.length := by
  have := packB_len s.2 r.N
  simp only [stepR, List.length_append, fields_len]
  omega

end Go.Proofs.YtbbgabdiikdjpaaDoor
