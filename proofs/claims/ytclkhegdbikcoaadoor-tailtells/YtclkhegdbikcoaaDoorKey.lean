/-
  A name's key: as it is sent, in small letters, as a text. The walk of keyOf.
-/
import Derived.Test.YtclkhegdbikcoaaDoorRr
import Derived.Test.YtclkhegdbikcoaaDoorTl
import Derived.Test.YtclkhegdbikcoaaDoorLast
import Derived.Maps.OwnSet
import Derived.StringKeys
import Derived.OwnWalk
namespace Go.Proofs.YtclkhegdbikcoaaDoor.Tl
open Go.RowKit Go.Deep Go.Maps

theorem sent_one : ∀ n m : List (List Int), n.all Nm.okL = true → m.all Nm.okL = true → Nm.sentL n ++ [0] = Nm.sentL m ++ [0] → n = m := by
  intro n
  induction n with
  | nil =>
    intro m _ hm h
    cases m with
    | nil => rfl
    | cons l r =>
      rw [Nm.sentL_cons] at h
      simp only [Nm.sentL_nil, List.nil_append, List.cons_append, List.cons.injEq] at h
      have := of_decide_eq_true (List.all_eq_true.1 hm l (by simp))
      omega
  | cons l r ih =>
    intro m hn hm h
    cases m with
    | nil =>
      rw [Nm.sentL_cons] at h
      simp only [Nm.sentL_nil, List.nil_append, List.cons_append, List.cons.injEq] at h
      have := of_decide_eq_true (List.all_eq_true.1 hn l (by simp))
      omega
    | cons l' r' =>
      rw [Nm.sentL_cons, Nm.sentL_cons] at h
      simp only [List.cons_append, List.append_assoc, List.cons.injEq] at h
      obtain ⟨h1, h2⟩ := h
      have hl : l.length = l'.length := by omega
      obtain ⟨h3, h4⟩ := List.append_inj h2 hl
      simp only [List.all_cons, Bool.and_eq_true] at hn hm
      rw [h3, ih r' hn.2 hm.2 h4]

/-- A name in small letters. -/
def fo (n : List ByteArray) : List ByteArray := n.map fS

theorem fo_len (n : List ByteArray) : (fo n).length = n.length := by simp [fo]
theorem fo_drop (n : List ByteArray) (i : Nat) : fo (n.drop i) = (fo n).drop i := by simp [fo, List.map_drop]
theorem fo_bs (n : List ByteArray) : (fo n).map Nm.bs = n.map Nm.fL := by
  unfold fo
  rw [List.map_map]
  exact List.map_congr_left fun x _ => bs_fS x

theorem fo_check (n : List ByteArray) : Nm.checkN ((fo n).map Nm.bs) = Nm.checkN (n.map Nm.bs) := by rw [fo_bs, check_fold]

/-- A name's key. -/
def keyT (n : List ByteArray) : ByteArray := strOfNums (Nm.sentL (n.map Nm.fL) ++ [0])

theorem names_bound (n : List ByteArray) : ∀ l ∈ n.map Nm.fL, ∀ x ∈ l, 0 ≤ x ∧ x ≤ 255 := by
  intro l hl x hx
  obtain ⟨s, _, rfl⟩ := List.mem_map.1 hl
  rw [← bs_fS] at hx
  exact bs_bound _ x hx

theorem key_ok {n : List ByteArray} (h : Nm.checkN (n.map Nm.bs) = 0) : ∀ b ∈ Nm.sentL (n.map Nm.fL) ++ [0], 0 ≤ b ∧ b ≤ 255 := by
  rw [← check_fold] at h
  intro b q
  rcases List.mem_append.1 q with q | q
  · exact sent_bytes _ (check_zero h).1 (names_bound n) b q
  · rw [List.mem_singleton.1 q]; omega

theorem key_bs {n : List ByteArray} (h : Nm.checkN (n.map Nm.bs) = 0) : Nm.bs (keyT n) = Nm.sentL (n.map Nm.fL) ++ [0] := bs_of _ (key_ok h)

theorem key_same {n m : List ByteArray} (h : Nm.checkN (n.map Nm.bs) = 0) (k : Nm.checkN (m.map Nm.bs) = 0) : keyT n = keyT m ↔ Nm.cN n m = 0 := by
  rw [Nm.cN_zero]
  constructor
  · intro e
    have e1 : Nm.sentL (n.map Nm.fL) ++ [0] = Nm.sentL (m.map Nm.fL) ++ [0] := by rw [← key_bs h, ← key_bs k, e]
    rw [← check_fold] at h k
    exact sent_one _ _ (check_zero h).1 (check_zero k).1 e1
  · intro e
    unfold keyT
    rw [e]

theorem key_size {n : List ByteArray} (h : Nm.checkN (n.map Nm.bs) = 0) : (keyT n).size ≤ 255 := by
  rw [← bs_length, key_bs h, List.length_append, Nm.sentL_length]
  rw [← check_fold] at h
  have := (check_zero h).2
  simp
  omega

theorem key_size1 {n : List ByteArray} : (keyT n).size = Nm.total (n.map Nm.fL) + 1 := by
  unfold keyT
  rw [strOfNums_size, List.length_append, Nm.sentL_length]
  rfl

theorem str_cut (xs : List Int) (k : Nat) (hb : ∀ x ∈ xs, 0 ≤ x ∧ x ≤ 255) : (strOfNums xs).extract k (strOfNums xs).size = strOfNums (xs.drop k) := by
  have h := bs_extract (strOfNums xs) k
  rw [bs_of xs hb] at h
  rw [← nums_bs ((strOfNums xs).extract k (strOfNums xs).size), h]

/-- Behind the first label the key is that of what is left. -/
theorem key_next {l : ByteArray} {r : List ByteArray} (h : Nm.checkN ((l :: r).map Nm.bs) = 0) : (keyT (l :: r)).extract (l.size + 1) (keyT (l :: r)).size = keyT r := by
  have hb := key_ok h
  unfold keyT
  rw [str_cut _ _ hb, List.map_cons, Nm.sentL_cons, List.cons_append, List.drop_succ_cons, List.append_assoc]
  congr 1
  have e : l.size = (Nm.fL l).length := by unfold Nm.fL; rw [List.length_map, bs_length]
  rw [e, List.drop_left]

theorem law_string : Keyed Tryd.prog 9 := string_keyed Tryd.underlying9
theorem zero_int (w : World) : (zeroValue 3).run Tryd.prog w = .ok (.int .i64 0) w := by kernel_rfl

/-- The key as the maps' laws have it. -/
def kl (m : List ByteArray) : Lit := .string (keyT m).data.toList

theorem kl_same {n m : List ByteArray} (h : Nm.checkN (n.map Nm.bs) = 0) (k : Nm.checkN (m.map Nm.bs) = 0) : kl n = kl m ↔ Nm.cN n m = 0 := by
  rw [← key_same h k]
  constructor
  · intro e
    unfold kl at e
    simp only [Lit.string.injEq] at e
    have e2 : (keyT n).data = (keyT m).data := Array.toList_inj.1 e
    rcases hn : keyT n with ⟨a⟩
    rcases hm : keyT m with ⟨b⟩
    rw [hn, hm] at e2
    simp only at e2
    rw [e2]
  · intro e
    unfold kl
    rw [e]

theorem kl_of {n : List ByteArray} (h : Nm.checkN (n.map Nm.bs) = 0) : keyOf Tryd.prog 9 (.string (keyT n)) = some (kl n) :=
  Go.WideMaps.keyOf_string_mk Tryd.underlying9 (by have := key_size h; unfold maxLen; omega)

theorem kl_lit (m : List ByteArray) : WideAt.IsKeyLit (kl m) := by
  unfold kl
  simp [WideAt.IsKeyLit]

set_option maxHeartbeats 1000000 in
set_option maxRecDepth 100000 in
theorem keyOf_any {x : Option Addr} {c l : Nat} (n : List ByteArray) (w : World) (h : Strs w x c n) (hl : n.length = l) (hk : Nm.checkN (n.map Nm.bs) = 0) :
    Calls Tryd.prog 15 #[.slice x l c] w fun e w' => e = .returned (.string (keyT n)) ∧ Below w.heap.size w w' := by
  subst hl
  have K := hid hk
  have KF := hid ((fo_check n).trans hk)
  obtain ⟨W, hW⟩ : ∃ W, Nm.sentL ((fo n).map Nm.bs) ++ [0] = W := ⟨_, rfl⟩
  have HW := hid hW
  have HK : Hid (strOfNums W = keyT n) := hid (by unfold keyT; rw [← hW, fo_bs])
  have hWl : W.length ≤ 255 := by
    have := key_size hk
    rw [← HK.out, strOfNums_size] at this
    exact this
  clear hk hW
  go_enter Tryd.func15, Tryd.ntmps15
  go_wp2_with fail
  refine (fold_at n _ h rfl).mono ?_
  rintro e w1 ⟨g, rfl, hs1, b1⟩
  have B1 := hid b1
  have S1 : Hid (Strs w1 (some ⟨g, 0, none⟩) n.length (fo n)) := hid hs1
  have hfl := fo_len n
  have HFL := hid hfl
  clear b1 hs1 hfl
  generalize fo n = m at *
  go_wp2_with fail
  refine (write_good W [] m _ (Bys.nil w1 none 0) S1.out rfl HFL.out (by simp) KF.out HW.out).mono ?_
  rintro e w2 ⟨x1, c1, rfl, hs2, b2⟩
  have B2 := hid (grown_on B1.out b2)
  have hpos : 0 < W.length := by rw [← HW.out]; simp
  obtain ⟨bk, off, rfl, hlt, q⟩ : ∃ b off, x1 = some ⟨b, off, none⟩ ∧ b < w2.heap.size ∧ ∀ i, i < W.length → w2.cell? ⟨b, off + i, none⟩ = some (.int .u8 (W.getD i 0)) := by
    rcases hs2.2.2.2 with hd | hd
    · rw [hd] at hpos; simp at hpos
    · exact hd
  have hconv := run_convert_bytes_arg (P := Tryd.prog) w2 54 5 Tryd.underlying54 Tryd.underlying5 bk off W.length c1 W rfl q 9 Tryd.underlying9
  rw [HK.out] at hconv
  clear q hs2 b2
  go_wp2_with fail
  go_ret
  exact ⟨rfl, B2.out⟩

end Go.Proofs.YtclkhegdbikcoaaDoor.Tl
