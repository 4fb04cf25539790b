/-
  Plain: other TTLs laid over those of all records of a message that was sent make the message with these. Rows that stay when older memory is written: the records of a message in one list, places; Write with its bytes' block; the function 'sent' of package pointsmantop.
-/
import Derived.Test.YtjpahieeaojieabMgBg
import Derived.Test.YtjpahieeaojieabGRows
import Derived.Test.YtjpahieeaojieabMsgPack
namespace Go.Proofs.Ytjpahieeaojieab
open Go.RowKit Go.Deep

/-- A record with another TTL. -/
def setT (t : Int) (r : Rn) : Rn := ⟨r.N, r.ty, r.cl, t, r.D⟩

theorem setT_step (t : Int) (r : Rn) (s : List Int × List (Int × List ByteArray)) : (stepR s (setT t r)).2 = (stepR s r).2 ∧ (stepR s (setT t r)).1.length = (stepR s r).1.length := by
  refine ⟨rfl, ?_⟩
  simp only [stepR, setT, List.length_append, fields_len]

theorem step_alike {s s' : List Int × List (Int × List ByteArray)} (h1 : s.1.length = s'.1.length) (h2 : s.2 = s'.2) (r : Rn) : (stepR s r).1.length = (stepR s' r).1.length ∧ (stepR s r).2 = (stepR s' r).2 := by
  simp only [stepR, List.length_append, fields_len, h1, h2, and_self]

theorem ttl_fold (t : Int) : ∀ (rs : List Rn) (s s' : List Int × List (Int × List ByteArray)), s'.1.length = s.1.length → s'.2 = s.2 → ((rs.map (setT t)).foldl stepR s').1.length = (rs.foldl stepR s).1.length ∧ ((rs.map (setT t)).foldl stepR s').2 = (rs.foldl stepR s).2 := by
  intro rs
  induction rs with
  | nil => intro s s' h1 h2; exact ⟨h1, h2⟩
  | cons r rs ih =>
    intro s s' h1 h2
    rw [List.map_cons, List.foldl_cons, List.foldl_cons]
    obtain ⟨a1, a2⟩ := setT_step t r s'
    obtain ⟨b1, b2⟩ := step_alike h1 h2 r
    exact ih _ _ (by rw [a2, b1]) (by rw [a1, b2])

/-- The state ahead of a record. -/
def stK (s0 : List Int × List (Int × List ByteArray)) (rs : List Rn) (k : Nat) : List Int × List (Int × List ByteArray) := (rs.take k).foldl stepR s0

/-- The bytes with the first TTLs laid over. -/
def laidK (s0 : List Int × List (Int × List ByteArray)) (rs : List Rn) (t : Int) (k : Nat) : List Int := (((rs.take k).map (setT t) ++ rs.drop k).foldl stepR s0).1

/-- The place of a record's TTL. -/
def placeK (s0 : List Int × List (Int × List ByteArray)) (rs : List Rn) (k : Nat) : Nat := (stK s0 rs k).1.length + (packB (stK s0 rs k).2 ((rs.map (·.N)).getD k [])).length + 4

theorem getD_N (rs : List Rn) (k : Nat) (hk : k < rs.length) : (rs.map (·.N)).getD k [] = rs[k].N := by
  rw [List.getD_eq_getElem?_getD, List.getElem?_map, List.getElem?_eq_getElem hk]
  rfl

theorem stK_next (s0 : List Int × List (Int × List ByteArray)) (rs : List Rn) (k : Nat) (hk : k < rs.length) : stK s0 rs (k + 1) = stepR (stK s0 rs k) rs[k] := by
  unfold stK
  rw [List.take_succ_eq_append_getElem hk, List.foldl_append]
  rfl

theorem stK_end (s0 : List Int × List (Int × List ByteArray)) (rs : List Rn) : stK s0 rs rs.length = rs.foldl stepR s0 := by
  unfold stK
  rw [List.take_length]

theorem fold_rest (s0 : List Int × List (Int × List ByteArray)) (rs : List Rn) (k : Nat) : rs.foldl stepR s0 = (rs.drop k).foldl stepR (stK s0 rs k) := by
  unfold stK
  rw [← List.foldl_append, List.take_append_drop]

theorem laid_zero (s0 : List Int × List (Int × List ByteArray)) (rs : List Rn) (t : Int) : laidK s0 rs t 0 = (rs.foldl stepR s0).1 := by
  simp [laidK]

theorem laid_end (s0 : List Int × List (Int × List ByteArray)) (rs : List Rn) (t : Int) : laidK s0 rs t rs.length = ((rs.map (setT t)).foldl stepR s0).1 := by
  simp [laidK]

theorem set4_append (A X : List Int) (i : Nat) (a b c d : Int) (h : i + 3 < A.length) : ((((A ++ X).set i a).set (i + 1) b).set (i + 2) c).set (i + 3) d = ((((A.set i a).set (i + 1) b).set (i + 2) c).set (i + 3) d) ++ X := by
  rw [List.set_append_left _ _ (by omega), List.set_append_left _ _ (by rw [List.length_set]; omega), List.set_append_left _ _ (by rw [List.length_set, List.length_set]; omega), List.set_append_left _ _ (by rw [List.length_set, List.length_set, List.length_set]; omega)]

/-- One TTL more laid over. -/
theorem laid_next (s0 : List Int × List (Int × List ByteArray)) (rs : List Rn) (t : Int) (k : Nat) (hk : k < rs.length) (h0 : 0 ≤ t) (h1 : t ≤ 4294967295) :
    ((((laidK s0 rs t k).set (placeK s0 rs k) (t / 16777216)).set (placeK s0 rs k + 1) (t / 65536 % 256)).set (placeK s0 rs k + 2) (t / 256 % 256)).set (placeK s0 rs k + 3) (t % 256) = laidK s0 rs t (k + 1) := by
  obtain ⟨S, hS⟩ : ∃ S, ((rs.take k).map (setT t)).foldl stepR s0 = S := ⟨_, rfl⟩
  obtain ⟨e1, e2⟩ := ttl_fold t (rs.take k) s0 s0 rfl rfl
  rw [hS] at e1 e2
  have l0 : laidK s0 rs t k = ((rs.drop (k + 1)).foldl stepR (stepR S rs[k])).1 := by
    unfold laidK
    rw [List.foldl_append, hS, List.drop_eq_getElem_cons hk, List.foldl_cons]
  have l1 : laidK s0 rs t (k + 1) = ((rs.drop (k + 1)).foldl stepR (stepR S (setT t rs[k]))).1 := by
    unfold laidK
    rw [List.foldl_append, List.take_succ_eq_append_getElem hk, List.map_append, List.foldl_append, hS]
    rfl
  obtain ⟨a1, a2⟩ := setT_step t rs[k] S
  obtain ⟨X, x1, x2, _⟩ := alike_r (A := (stepR S rs[k]).1) (A' := (stepR S (setT t rs[k])).1) a2.symm (rs.drop (k + 1)) (s := stepR S rs[k]) (s' := stepR S (setT t rs[k])) ⟨[], (List.append_nil _).symm, (List.append_nil _).symm, a1.symm⟩
  have hp : placeK s0 rs k = (S.1 ++ packB S.2 rs[k].N).length + 4 := by
    unfold placeK
    rw [getD_N rs k hk, List.length_append, e1, e2]
    rfl
  rw [l0, l1, x1, x2, hp]
  have hA : (stepR S rs[k]).1 = S.1 ++ packB S.2 rs[k].N ++ fieldsN rs[k].ty rs[k].cl rs[k].ttl rs[k].D := rfl
  have hA' : (stepR S (setT t rs[k])).1 = S.1 ++ packB S.2 rs[k].N ++ fieldsN rs[k].ty rs[k].cl t rs[k].D := rfl
  rw [hA, hA', set4_append _ _ _ _ _ _ _ (by simp only [List.length_append, fields_len]; omega)]
  exact congrArg (· ++ X) (rec_put (S.1 ++ packB S.2 rs[k].N) rs[k].ty rs[k].cl rs[k].ttl t rs[k].D h0 h1)

theorem laid_len (s0 : List Int × List (Int × List ByteArray)) (rs : List Rn) (t : Int) (k : Nat) : (laidK s0 rs t k).length = (rs.foldl stepR s0).1.length := by
  obtain ⟨e1, e2⟩ := ttl_fold t (rs.take k) s0 s0 rfl rfl
  unfold laidK
  rw [List.foldl_append, fold_rest s0 rs k]
  unfold stK
  generalize ((rs.take k).map (setT t)).foldl stepR s0 = S' at *
  generalize (rs.take k).foldl stepR s0 = S at *
  generalize rs.drop k = l
  induction l generalizing S S' with
  | nil => exact e1
  | cons r l ih =>
    obtain ⟨b1, b2⟩ := step_alike e1 e2 r
    exact ih _ _ b1 b2

theorem stK_good {s0 : List Int × List (Int × List ByteArray)} {rs : List Rn} (h0 : Good s0) (hr : ∀ r ∈ rs, rE r = 0) (hD : ∀ r ∈ rs, ∀ b ∈ r.D, 0 ≤ b ∧ b ≤ 255) (k : Nat) : Good (stK s0 rs k) :=
  good_rs h0 (fun r q => hr r (List.mem_of_mem_take q)) (fun r q => hD r (List.mem_of_mem_take q))

/-- Each record is found, one behind the other. -/
theorem skip_found {s0 : List Int × List (Int × List ByteArray)} {rs : List Rn} (h0 : Good s0) (hr : ∀ r ∈ rs, rE r = 0) (hD : ∀ r ∈ rs, ∀ b ∈ r.D, 0 ≤ b ∧ b ≤ 255) (k : Nat) (hk : k < rs.length) :
    ∃ n, recW (rs.foldl stepR s0).1 ((stK s0 rs k).1.length : Int) = (0, rs[k].N.map Nm.bs, n, (stK s0 rs (k + 1)).1.length) ∧ n + 4 = placeK s0 rs k ∧ placeK s0 rs k + 4 ≤ (rs.foldl stepR s0).1.length := by
  have g := stK_good h0 hr hD k
  obtain ⟨more, hm⟩ := fold_r (rs.drop (k + 1)) (stK s0 rs (k + 1))
  rw [← fold_rest s0 rs (k + 1)] at hm
  have h1 := (read_r g (hr rs[k] (List.getElem_mem hk)) more).1
  rw [← stK_next s0 rs k hk] at h1
  rw [hm]
  refine ⟨_, h1, ?_, ?_⟩
  · unfold placeK
    rw [getD_N rs k hk, List.length_append]
  · unfold placeK
    rw [getD_N rs k hk, List.length_append, stK_next s0 rs k hk]
    simp only [stepR, List.length_append, fields_len]
    omega

/-- The state ahead of a question. -/
def sqK (s0 : List Int × List (Int × List ByteArray)) (qs : List Qn) (k : Nat) : List Int × List (Int × List ByteArray) := (qs.take k).foldl stepQ s0

theorem sqK_next (s0 : List Int × List (Int × List ByteArray)) (qs : List Qn) (k : Nat) (hk : k < qs.length) : sqK s0 qs (k + 1) = stepQ (sqK s0 qs k) qs[k] := by
  unfold sqK
  rw [List.take_succ_eq_append_getElem hk, List.foldl_append]
  rfl

/-- Each question's name is found. -/
theorem ask_found {s0 : List Int × List (Int × List ByteArray)} {qs : List Qn} (h0 : Good s0) (hq : ∀ q ∈ qs, qE q = 0) (k : Nat) (hk : k < qs.length) (more : List Int) :
    ∃ L n, readW ((qs.foldl stepQ s0).1 ++ more) ((sqK s0 qs k).1.length : Int) = (0, L, n) ∧ n + 4 = (sqK s0 qs (k + 1)).1.length := by
  have g : Good (sqK s0 qs k) := good_qs h0 (fun r q => hq r (List.mem_of_mem_take q))
  obtain ⟨more2, hm⟩ := fold_q (qs.drop (k + 1)) (sqK s0 qs (k + 1))
  have hf : qs.foldl stepQ s0 = (qs.drop (k + 1)).foldl stepQ (sqK s0 qs (k + 1)) := by
    unfold sqK
    rw [← List.foldl_append, List.take_append_drop]
  rw [← hf] at hm
  have h1 := read_q g (hq qs[k] (List.getElem_mem hk)) (more2 ++ more)
  rw [← sqK_next s0 qs k hk, ← List.append_assoc, ← hm] at h1
  obtain ⟨L, m, e1, _, e2, _⟩ := readQ_ok h1
  exact ⟨L, m, e1, e2.symm⟩

/-- The message with the other TTLs. -/
theorem ttl_msg {h : Hd} {qs : List Qn} {r1 r2 r3 : List Rn} {t : Int} (k : msgE h qs r1 r2 r3 = 0) (h0 : 0 ≤ t) (h1 : t ≤ 4294967295) :
    msgE h qs (r1.map (setT t)) (r2.map (setT t)) (r3.map (setT t)) = 0 ∧ (endS h qs (r1.map (setT t)) (r2.map (setT t)) (r3.map (setT t))).1 = laidK (qs.foldl stepQ (aheadN h qs.length r1.length r2.length r3.length, [])) (r1 ++ r2 ++ r3) t (r1 ++ r2 ++ r3).length := by
  have e : (endS h qs (r1.map (setT t)) (r2.map (setT t)) (r3.map (setT t))).1 = laidK (qs.foldl stepQ (aheadN h qs.length r1.length r2.length r3.length, [])) (r1 ++ r2 ++ r3) t (r1 ++ r2 ++ r3).length := by
    rw [laid_end]
    unfold endS
    rw [← List.map_append, ← List.map_append, List.length_map, List.length_map, List.length_map]
  refine ⟨?_, e⟩
  have hr : ∀ r ∈ r1.map (setT t) ++ r2.map (setT t) ++ r3.map (setT t), rE r = 0 := by
    intro r hr
    rw [← List.map_append, ← List.map_append] at hr
    obtain ⟨r0, hm, rfl⟩ := List.mem_map.1 hr
    have hz := (msgE_zero k).2.2.2.1 r0 hm
    obtain ⟨k0, k1, k2, _, hd⟩ := recE_zero hz
    unfold rE recE setT
    rw [if_neg (by simp [k0]), if_neg (by simp only [Decidable.not_not]; exact ⟨k1, k2, h0, h1⟩), if_neg (by simp only; omega)]
  obtain ⟨q0, q1, q2, q3, q4⟩ := msgE_zero k
  have ql : (laidK (qs.foldl stepQ (aheadN h qs.length r1.length r2.length r3.length, [])) (r1 ++ r2 ++ r3) t (r1 ++ r2 ++ r3).length).length ≤ 65535 := by
    rw [laid_len]
    exact q4
  unfold msgE
  rw [e, hdE_ok q0, if_neg (by simp), if_neg (by simp only [List.length_map]; omega), firstE_zero q2, if_neg (by simp), firstE_zero hr, if_neg (by simp), if_neg (by omega)]

end Go.Proofs.Ytjpahieeaojieab

namespace Go.Proofs.Ytjpahieeaojieab
open Go.RowKit Go.Deep

/-- Write, with the block of what it hands back. -/
theorem gw_own {xq x1 x2 x3 : Option Addr} {cq c1 c2 c3 bq : Nat} (h : Hd) (qs : List Qn) (r1 r2 r3 : List Rn) (F : List Int) (w : World) (hq : Qs w bq xq cq qs) (hr1 : Rs w bq x1 c1 r1) (hr2 : Rs w bq x2 c2 r2) (hr3 : Rs w bq x3 c3 r3) (hE : msgE h qs r1 r2 r3 = 0) (hF : (endS h qs r1 r2 r3).1 = F) :
    Calls Try.prog 5 #[.agg #[.int .i64 h.id, .bool h.an, .int .i64 h.op, .bool h.aa, .bool h.tc, .bool h.rd, .bool h.ra, .bool h.z, .bool h.ad, .bool h.cd, .int .i64 h.code, .slice xq qs.length cq, .slice x1 r1.length c1, .slice x2 r2.length c2, .slice x3 r3.length c3]] w fun e w' => ∃ g c C, e = .returned (.tuple #[.slice (some ⟨g, 0, none⟩) F.length c, .nilIface]) ∧ Bys w' (some ⟨g, 0, none⟩) c F ∧ Bl 5 w' g C ∧ w.heap.size ≤ g ∧ Below w.heap.size w w' := by
  refine (mwrite_any h qs r1 r2 r3 w hq hr1 hr2 hr3).mono ?_
  have hD : ∀ r ∈ r1 ++ r2 ++ r3, ∀ b ∈ r.D, 0 ≤ b ∧ b ≤ 255 := by
    intro r hr
    simp only [List.mem_append] at hr
    rcases hr with (hr | hr) | hr
    · exact hr1.data r hr
    · exact hr2.data r hr
    · exact hr3.data r hr
  have hb := (msg_back hE hD).2.2
  have hl := (msgE_zero hE).2.2.2.2
  obtain ⟨more, hm⟩ := end_form h qs r1 r2 r3
  have h12 : 12 ≤ (endS h qs r1 r2 r3).1.length := by rw [hm, List.length_append, ahead_len]; omega
  rw [hF] at hb hl h12
  rintro e w' (⟨_, x, c, he, hrow, k⟩ | ⟨k, _⟩)
  · rw [hF] at he hrow
    obtain ⟨g, cap, C, hv, hg, hC, hby⟩ := rowb_open hrow (by omega) (by omega) hb
    simp only [Value.slice.injEq, true_and] at hv
    obtain ⟨rfl, rfl⟩ := hv
    exact ⟨g, c, C, he, hby, hC, hg, k⟩
  · exact absurd hE k

/-- A row of the call's own, from a block on, of records whose parts lie in memory that was there. -/
def ORow (wp : World) (B : Nat) (v : Value) (rs : List Rn) (w : World) : Prop :=
  (∃ L : List (Rn × (Option Addr × Nat) × (Option Addr × Nat)), L.map (·.1) = rs ∧ w.ownsRow B 31 5 v L.length (L.flatMap rcells) ∧ ∀ e ∈ L, Strs wp e.2.1.1 e.2.1.2 e.1.N ∧ Bys wp e.2.2.1 e.2.2.2 e.1.D ∧ (e.2.2.1 = none → e.2.2.2 = 0)) ∧ Below wp.heap.size wp w ∧ wp.heap.size ≤ B ∧ B ≤ w.heap.size

theorem GRow.row {wp w0 w : World} {v : Value} {rs : List Rn} (h : GRow wp w0 v rs w) (hw : Below wp.heap.size wp w0) : ORow wp w0.heap.size v rs w :=
  ⟨h.1, wp_on hw h.2, hw.size, h.2.size⟩

theorem GRow.slice {wp w0 w : World} {v : Value} {rs : List Rn} (h : GRow wp w0 v rs w) : ∃ x c, v = .slice x rs.length c := by
  obtain ⟨⟨L, h3, h4, h5⟩, hb⟩ := h
  have hl' : L.length = rs.length := by rw [← h3, List.length_map]
  rcases h4.2 with ⟨e, e2⟩ | ⟨g, cap, cur, e, _⟩
  · exact ⟨none, 0, by rw [e, ← hl', e2]⟩
  · exact ⟨_, _, by rw [e, hl']⟩

theorem ORow.below {wp w w' : World} {B : Nat} {v : Value} {rs : List Rn} (h : ORow wp B v rs w) (k : Below w.heap.size w w') : ORow wp B v rs w' := by
  obtain ⟨⟨L, h1, h2, h3⟩, hb, h4, h5⟩ := h
  exact ⟨⟨L, h1, owns_stay h2 k, h3⟩, wp_on hb k, h4, Nat.le_trans h5 k.size⟩

theorem ORow.far {wp w : World} {B : Nat} {v : Value} {rs : List Rn} (h : ORow wp B v rs w) {p : Addr} (h1 : wp.heap.size ≤ p.block) (h2 : p.block < B) (u : Value) : ORow wp B v rs (w.setCell p u) := by
  obtain ⟨⟨L, k1, k2, k3⟩, hb, h4, h5⟩ := h
  exact ⟨⟨L, k1, owns_far k2 h2 u, k3⟩, hb.setCell h1 u, h4, by simpa [World.setCell] using h5⟩

theorem ORow.rs {wp w : World} {B : Nat} {x : Option Addr} {c : Nat} {rs : List Rn} (h : ORow wp B (.slice x rs.length c) rs w) (hl : rs.length ≤ 4000000000000) : Rs w 0 x c rs := by
  obtain ⟨⟨L, k1, k2, k3⟩, hb, h4, h5⟩ := h
  have hA : ARow wp (.slice x rs.length c) rs w := ⟨⟨L, k1, owns_base5 k2 h4, k3⟩, hb⟩
  obtain ⟨x', c', e, hR⟩ := hA.open hl
  simp only [Value.slice.injEq, true_and] at e
  obtain ⟨rfl, rfl⟩ := e
  exact hR

theorem GRow.base {wp w w0 w' : World} {v : Value} {rs : List Rn} (h : GRow wp w0 v rs w') (hw : Below w.heap.size w w0) : GRow wp w v rs w' := by
  obtain ⟨⟨L, h3, h4, h5⟩, hb⟩ := h
  exact ⟨⟨L, h3, owns_base5 h4 hw.size, h5⟩, grown_on hw hb⟩

set_option maxHeartbeats 1000000 in
set_option maxRecDepth 100000 in
theorem all_kept {xq x1 x2 x3 : Option Addr} {lq cq c1 c2 c3 bq : Nat} (h : Hd) (r1 r2 r3 rs : List Rn) (hrs : Hid (rs = r1 ++ r2 ++ r3)) (wp w : World) (hw : Below wp.heap.size wp w) (hr1 : Rs wp bq x1 c1 r1) (hr2 : Rs wp bq x2 c2 r2) (hr3 : Rs wp bq x3 c3 r3) (b1 : r1.length ≤ 600000000000) (b2 : r2.length ≤ 600000000000) (b3 : r3.length ≤ 600000000000) :
    Calls Try.prog 8 #[.agg #[.int .i64 h.id, .bool h.an, .int .i64 h.op, .bool h.aa, .bool h.tc, .bool h.rd, .bool h.ra, .bool h.z, .bool h.ad, .bool h.cd, .int .i64 h.code, .slice xq lq cq, .slice x1 r1.length c1, .slice x2 r2.length c2, .slice x3 r3.length c3]] w fun e w' => ∃ x c, e = .returned (.slice x rs.length c) ∧ GRow wp w (.slice x rs.length c) rs w' := by
  have BA : Below w.heap.size w (w.alloc (.cells #[.int .i64 h.id, .bool h.an, .int .i64 h.op, .bool h.aa, .bool h.tc, .bool h.rd, .bool h.ra, .bool h.z, .bool h.ad, .bool h.cd, .int .i64 h.code, .slice xq lq cq, .slice x1 r1.length c1, .slice x2 r2.length c2, .slice x3 r3.length c3] 27)) := (Below.refl _ w).alloc (Nat.le_refl _) _
  have HW := hid (wp_on hw BA)
  have A0 : Hid (GRow wp (w.alloc (.cells #[.int .i64 h.id, .bool h.an, .int .i64 h.op, .bool h.aa, .bool h.tc, .bool h.rd, .bool h.ra, .bool h.z, .bool h.ad, .bool h.cd, .int .i64 h.code, .slice xq lq cq, .slice x1 r1.length c1, .slice x2 r2.length c2, .slice x3 r3.length c3] 27)) (.slice none 0 0) [] (w.alloc (.cells #[.int .i64 h.id, .bool h.an, .int .i64 h.op, .bool h.aa, .bool h.tc, .bool h.rd, .bool h.ra, .bool h.z, .bool h.ad, .bool h.cd, .int .i64 h.code, .slice xq lq cq, .slice x1 r1.length c1, .slice x2 r2.length c2, .slice x3 r3.length c3] 27))) := hid ⟨⟨[], rfl, World.ownsRow_nil _ _ _ _, fun e he => by simp at he⟩, Below.refl _ _⟩
  have K0 := Bl.new 27 w #[.int .i64 h.id, .bool h.an, .int .i64 h.op, .bool h.aa, .bool h.tc, .bool h.rd, .bool h.ra, .bool h.z, .bool h.ad, .bool h.cd, .int .i64 h.code, .slice xq lq cq, .slice x1 r1.length c1, .slice x2 r2.length c2, .slice x3 r3.length c3]
  have H1 := hid hr1
  have H2 := hid hr2
  have H3 := hid hr3
  have HB := hid BA
  clear hr1 hr2 hr3 BA hw
  go_enter Try.func8, Try.ntmps8
  go_wp2_with (at_builtin; refine wpList_append_g rfl _ _ rfl _ rfl rfl A0.out HW.out H1.out (by first | omega | (simp; omega)) ?_)
  intro v1 w1 ar1
  have k13 : w1.cell? ⟨w.heap.size, 13, none⟩ = _ := (K0.below ar1.2).cell (i := 13) rfl
  have A1 := hid ar1
  clear ar1 A0
  go_wp2_with (at_builtin; refine wpList_append_g rfl _ _ rfl _ rfl rfl A1.out HW.out H2.out (by first | omega | (simp; omega)) ?_)
  intro v2 w2 ar2
  have k14 : w2.cell? ⟨w.heap.size, 14, none⟩ = _ := (K0.below ar2.2).cell (i := 14) rfl
  have A2 := hid ar2
  clear ar2 A1 k13
  go_wp2_with (at_builtin; refine wpList_append_g rfl _ _ rfl _ rfl rfl A2.out HW.out H3.out (by first | omega | (simp; omega)) ?_)
  intro v3 w3 ar3
  have G3 := (show GRow wp _ v3 rs w3 from by rw [hrs.out]; simpa using ar3).base HB.out
  obtain ⟨x, c, rfl⟩ := G3.slice
  have X := hid G3
  clear ar3 A2 k14 G3
  go_wp2_with fail
  go_ret
  exact ⟨x, c, rfl, X.out⟩

theorem Rowi.far {w : World} {B : Nat} {v : Value} {xs : List Int} (h : Rowi w B v xs) {p : Addr} (hp : p.block < B) (u : Value) : Rowi (w.setCell p u) B v xs := owns_far h hp u

theorem Rowi.stay {w w' : World} {B : Nat} {v : Value} {xs : List Int} (h : Rowi w B v xs) (k : Below w.heap.size w w') : Rowi w' B v xs := owns_stay h k

/-- What stays while the TTLs are laid over: the bytes in their block, the message, its records, the places. -/
def TSt (wp : World) (MC : Array Value) (g cb B1 : Nat) (vr : Value) (rs : List Rn) (B2 : Nat) (vp : Value) (P X : List Int) (u : World) : Prop :=
  Bys u (some ⟨g, 0, none⟩) cb X ∧ (∃ C, Bl 5 u g C) ∧ Bl 27 u wp.heap.size MC ∧ ORow wp B1 vr rs u ∧ Rowi u B2 vp P ∧ Below wp.heap.size wp u ∧ B2 ≤ u.heap.size

theorem TSt.put {wp u : World} {MC : Array Value} {g cb B1 : Nat} {vr : Value} {rs : List Rn} {B2 : Nat} {vp : Value} {P X : List Int} (h : TSt wp MC g cb B1 vr rs B2 vp P X u) (h1 : wp.heap.size < g) (h2 : g < B1) (h3 : B1 ≤ B2) (i : Nat) (v : Int) (v0 : 0 ≤ v) (v1 : v ≤ 255) :
    TSt wp MC g cb B1 vr rs B2 vp P (X.set i v) (u.setCell ⟨g, i, none⟩ (.int .u8 v)) := by
  obtain ⟨k1, ⟨C, k2⟩, k3, k4, k5, k6, k7⟩ := h
  refine ⟨k1.put k2 i v v0 v1, ⟨_, k2.set i (.int .u8 v)⟩, k3.far (p := ⟨g, i, none⟩) (by simp only; omega) (.int .u8 v), k4.far (p := ⟨g, i, none⟩) (by simp only; omega) h2 _, k5.far (p := ⟨g, i, none⟩) (by simp only; omega) _, k6.setCell (p := ⟨g, i, none⟩) (by simp only; omega) _, by simpa [World.setCell] using k7⟩

theorem TSt.here {wp u : World} {MC : Array Value} {g cb B1 : Nat} {vr : Value} {rs : List Rn} {B2 : Nat} {vp : Value} {P X : List Int} (h : TSt wp MC g cb B1 vr rs B2 vp P X u) (i : Nat) (hi : i < X.length) : (∃ v, u.cell? ⟨g, i, none⟩ = some v) ∧ u.frozen? ⟨g, i, none⟩ = false := by
  obtain ⟨k1, ⟨C, k2⟩, _⟩ := h
  refine ⟨?_, k2.frozen i⟩
  rcases k1.2.2.2 with q | ⟨b, off, e, _, q⟩
  · rw [q] at hi; simp at hi
  · cases e
    have := q i hi
    rw [Nat.zero_add] at this
    exact ⟨_, this⟩

theorem TSt.place {wp u : World} {MC : Array Value} {g cb B1 : Nat} {vr : Value} {rs : List Rn} {B2 n cp gp : Nat} {P X : List Int} (h : TSt wp MC g cb B1 vr rs B2 (.slice (some ⟨gp, 0, none⟩) n cp) P X u) (i : Nat) (hi : i < P.length) : u.cell? ⟨gp, i, none⟩ = some (.int .i64 (P.getD i 0)) := by
  obtain ⟨_, _, _, _, k5, _⟩ := h
  have := World.ownsRow.cells k5 (g := gp) rfl i (.int .i64 (P.getD i 0)) (by rw [List.getElem?_map, List.getElem?_eq_getElem hi, List.getD_eq_getElem?_getD, List.getElem?_eq_getElem hi]; rfl)
  rw [Go.WideShapes.add_plain, Nat.zero_add] at this
  exact this

theorem rowi_at {w : World} {B n c : Nat} {x : Option Addr} {xs : List Int} (h : Rowi w B (.slice x n c) xs) (hp : 0 < xs.length) : ∃ gp, x = some ⟨gp, 0, none⟩ := by
  rcases h.2 with ⟨_, h4⟩ | ⟨g, cap, cur, e, _⟩
  · omega
  · cases e; exact ⟨g, rfl⟩

set_option maxRecDepth 100000 in
theorem tsent_any (w : World) : Calls Try.prog 9 #[] w fun e w' => e = .returned (.bool true) ∧ Below w.heap.size w w' := by
  go_enter Try.func9, Try.ntmps9
  go_wp2_with fail
  refine (mwrite_empty _).mono ?_
  rintro e w1 ⟨x1, c1, rfl, b1⟩
  have B1 := hid b1
  clear b1
  go_wp2_with fail
  go_ret
  exact ⟨rfl, B1.out⟩

end Go.Proofs.Ytjpahieeaojieab
