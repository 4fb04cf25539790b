/-
  A part is added to a draft: what is wrong is told, or the draft is as the plain step says.
-/
import Derived.Test.YtbbgabdiikdjpaaDoorMgAdd
namespace Go.Proofs.YtbbgabdiikdjpaaDoor
open Go.RowKit Go.Deep Go.Maps

/-- The draft of a state: full where the bytes are too many. -/
def DrS (w : World) (g B : Nat) (s : List Int × List (Int × List ByteArray)) : Prop := (s.1.length ≤ 65535 ∧ Dr w g B s.1 s.2) ∨ (65535 < s.1.length ∧ DrF w g B)

theorem starts_none {n : List ByteArray} {g : Nat} {w : World} {v vf : Value} (hk : Nm.checkN (n.map Nm.bs) = 0) (hg : Bl 104 w g #[v, .map none, vf]) : StartsAt g n [] w := by
  intro u z s hu hz
  refine (starts_full g v vf n u hz rfl hk (hg.below hu)).mono ?_
  rintro e u' ⟨rfl, rfl⟩
  exact ⟨none, 0, rfl, Ints.nil _ _ _, Below.refl _ _⟩

theorem starts_some {n : List ByteArray} {g b : Nat} {w : World} {v vf : Value} {tab : List (Int × List ByteArray)} (hk : Nm.checkN (n.map Nm.bs) = 0) (hg : Bl 104 w g #[v, .map (some b), vf]) (hm : MapIs w b tab) : StartsAt g n (startsT tab n) w := by
  intro u z s hu hz
  exact starts_any g b v vf tab n u hz rfl hk (hg.below hu) (hm.below hu)

theorem starts_len (tab : List (Int × List ByteArray)) (n : List ByteArray) : (startsT tab n).length ≤ 1 := by
  unfold startsT
  cases bestT tab n with
  | none => simp
  | some e => simp

theorem below_down {B : Nat} {w u u' : World} (h : Below w.heap.size w u) (hB : B ≤ w.heap.size) (k : Below B u u') : Below B w u' := (h.mono hB).trans k

theorem keep_to_full {n : List ByteArray} {g B : Nat} {w : World} {x0 : Option Addr} {l0 cp0 : Nat} {vm : Value} {full : Bool} {out new : List Int} (hg : Bl 104 w g #[.slice x0 l0 cp0, vm, .bool full]) (hf : full = true ∨ 65535 < out.length) (hl : out.length ≤ 200000000000000) (hB : B ≤ w.heap.size) (hBg : B ≤ g) :
    KeepAt g n out new (fun u' => DrF u' g B ∧ Below B w u') w := by
  intro u x c z s y t hu _ _ _
  refine (keep_full g _ vm full u (hg.below hu) hf hl).mono ?_
  rintro e u' ⟨rfl, h1, h2⟩
  exact ⟨rfl, ⟨h1, hBg⟩, below_down hu hB (h2 B hBg)⟩

theorem keep_on {n : List ByteArray} {g B b len k : Nat} {w : World} {x0 : Option Addr} {l0 cp0 : Nat} {out : List Int} {tab : List (Int × List ByteArray)} (hg : Bl 104 w g #[.slice x0 l0 cp0, .map (some b), .bool false]) (hm : MapIs w b tab) (h6 : out.length ≤ 65535) (hk : Nm.checkN (n.map Nm.bs) = 0)
    (hkn : k ≤ n.length) (hnew : ∀ i, i < k → findT tab (n.drop i) = none) (htl : tab.length ≤ 1000000000) (hB : B ≤ w.heap.size) (hB1 : B ≤ g) (hB2 : B ≤ b) :
    KeepAt g n out ((newT len n k).map (·.1)) (fun u' => Dr u' g B out (tab ++ newT len n k) ∧ Below B w u') w := by
  intro u x c z s y t hu hr hz hy
  have hlen : ((newT len n k).map (·.1)).length = (newT len n k).length := List.length_map _
  rw [hlen]
  refine (keep_good g B b out tab n k len u (hg.below hu) (hm.below hu) (owns_base hr hB) rfl h6 hz rfl hk hy rfl hkn hnew htl hB1 hB2).mono ?_
  rintro e u' ⟨rfl, h1, h2⟩
  exact ⟨rfl, h1, below_down hu hB h2⟩

theorem pack_small {n : List ByteArray} (hk : Nm.checkN (n.map Nm.bs) = 0) (ms : List Int) (st : List Int) (hb : ∀ b ∈ ms, 0 ≤ b ∧ b ≤ 255) : (packOut ms n st).length ≤ ms.length + 255 := by
  have h1 := (pack_len (ms := ms) (starts := st) (n := n) hb).2
  have h2 := (check_zero hk).2
  rw [List.length_append, List.length_append, Nm.sentL_length] at h1
  simp at h1
  omega

theorem addq_any {y : Option Addr} {d : Nat} (g B : Nat) (s : List Int × List (Int × List ByteArray)) (q : Qn) (w : World) (hs : Good s) (hd : DrS w g B s) (hB : B ≤ w.heap.size) (hn : Strs w y d q.N) :
    Calls Tryd.prog 45 #[.pointer (some ⟨g, 0, none⟩), .agg #[.slice y q.N.length d, .int .i64 q.ty, .int .i64 q.cl]] w fun e w' => e = .returned (errV (qE q)) ∧ Below B w w' ∧ (qE q = 0 → DrS w' g B (stepQ s q)) := by
  by_cases hk : Nm.checkN (q.N.map Nm.bs) = 0
  case neg =>
    have e : qE q = Nm.checkN (q.N.map Nm.bs) := by unfold qE; rw [if_pos hk]
    refine (addq_name g _ q w hn rfl hk).mono ?_
    rintro e' w' ⟨rfl, hb⟩
    rw [e, errV_some hk]
    exact ⟨rfl, hb.mono hB, fun h => absurd h hk⟩
  have hlen := step_q_len s q
  by_cases hr : (0 ≤ q.ty ∧ q.ty ≤ 65535) ∧ (0 ≤ q.cl ∧ q.cl ≤ 65535)
  case neg =>
    have e : qE q = 6 := by unfold qE; rw [if_neg (by simp [hk]), if_pos hr]
    rw [e]
    rcases hd with ⟨h6, x, c, b, k1, k2, k3, k4, k5⟩ | ⟨h6, k1, k4⟩
    · obtain ⟨xx, cc, e2, hby⟩ := rowb_bys k2 (by omega) hs.1
      simp only [Value.slice.injEq, true_and] at e2
      obtain ⟨rfl, rfl⟩ := e2
      refine (addq_range g _ _ q s.1 (startsT s.2 q.N) _ w hn hk hr k1 hby rfl h6 (starts_len _ _) (starts_some hk k1 k3) (pack_is q.N hs.2.1).2).mono ?_
      rintro e' w' ⟨rfl, hb⟩
      exact ⟨rfl, hb.mono hB, fun h => by cases h⟩
    · refine (addq_range g _ _ q [] [] (packTold [] q.N []) w hn hk hr k1 (Bys.nil _ _ _) rfl (by simp) (by simp) (starts_none hk k1) rfl).mono ?_
      rintro e' w' ⟨rfl, hb⟩
      exact ⟨rfl, hb.mono hB, fun h => by cases h⟩
  have e : qE q = 0 := by unfold qE; rw [if_neg (by simp [hk]), if_neg (by simp only [Decidable.not_not]; exact hr)]
  rw [e, errV_none]
  rcases hd with ⟨h6, x, c, b, k1, k2, k3, k4, k5⟩ | ⟨h6, k1, k4⟩
  · obtain ⟨xx, cc, e2, hby⟩ := rowb_bys k2 (by omega) hs.1
    simp only [Value.slice.injEq, true_and] at e2
    obtain ⟨rfl, rfl⟩ := e2
    have hp := pack_is q.N hs.2.1
    have ho : packOut s.1 q.N (startsT s.2 q.N) ++ twoN q.ty ++ twoN q.cl = (stepQ s q).1 := by rw [hp.1]; simp [stepQ]
    by_cases c6 : (stepQ s q).1.length ≤ 65535
    · refine (addq_core g _ _ q s.1 (stepQ s q).1 (startsT s.2 q.N) _ _ w hn hk hr.1 hr.2 k1 hby rfl h6 (starts_len _ _) (starts_some hk k1 k3) hp.2 ho (keep_on k1 k3 c6 hk (kept_le _ _) (kept_new _ _) (by have := hs.2.2; omega) hB k4 k5)).mono ?_
      rintro e' w' ⟨rfl, h1, h2⟩
      exact ⟨rfl, h2, fun _ => Or.inl ⟨c6, h1⟩⟩
    · have := (check_zero hk).2
      refine (addq_core g _ _ q s.1 (stepQ s q).1 (startsT s.2 q.N) _ _ w hn hk hr.1 hr.2 k1 hby rfl h6 (starts_len _ _) (starts_some hk k1 k3) hp.2 ho (keep_to_full k1 (Or.inr (by omega)) (by omega) hB k4)).mono ?_
      rintro e' w' ⟨rfl, h1, h2⟩
      exact ⟨rfl, h2, fun _ => Or.inr ⟨by omega, h1⟩⟩
  · have hsm := pack_small hk [] [] (by simp)
    simp only [List.length_nil] at hsm
    refine (addq_core g _ _ q [] (packOut [] q.N [] ++ twoN q.ty ++ twoN q.cl) [] (packTold [] q.N []) _ w hn hk hr.1 hr.2 k1 (Bys.nil _ _ _) rfl (by simp) (by simp) (starts_none hk k1) rfl rfl (keep_to_full k1 (Or.inl rfl) (by simp only [List.length_append, two_len]; omega) hB k4)).mono ?_
    rintro e' w' ⟨rfl, h1, h2⟩
    exact ⟨rfl, h2, fun _ => Or.inr ⟨by omega, h1⟩⟩

theorem addr_any {y dz : Option Addr} {d dc : Nat} (g B : Nat) (s : List Int × List (Int × List ByteArray)) (r : Rn) (w : World) (hs : Good s) (hd : DrS w g B s) (hB : B ≤ w.heap.size) (hn : Strs w y d r.N) (hD : Bys w dz dc r.D) (hdz : dz = none → dc = 0) :
    Calls Tryd.prog 46 #[.pointer (some ⟨g, 0, none⟩), .agg #[.slice y r.N.length d, .int .i64 r.ty, .int .i64 r.cl, .int .i64 r.ttl, .slice dz r.D.length dc]] w fun e w' => e = .returned (errV (rE r)) ∧ Below B w w' ∧ (rE r = 0 → DrS w' g B (stepR s r)) := by
  by_cases hk : Nm.checkN (r.N.map Nm.bs) = 0
  case neg =>
    have e : rE r = Nm.checkN (r.N.map Nm.bs) := by unfold rE recE; rw [if_pos hk]
    refine (addr_name g _ r w hn rfl hk).mono ?_
    rintro e' w' ⟨rfl, hb⟩
    rw [e, errV_some hk]
    exact ⟨rfl, hb.mono hB, fun h => absurd h hk⟩
  have hlen := step_r_len s r
  by_cases hr : rE r = 0
  case neg =>
    rw [errV_some hr]
    rcases hd with ⟨h6, x, c, b, k1, k2, k3, k4, k5⟩ | ⟨h6, k1, k4⟩
    · obtain ⟨xx, cc, e2, hby⟩ := rowb_bys k2 (by omega) hs.1
      simp only [Value.slice.injEq, true_and] at e2
      obtain ⟨rfl, rfl⟩ := e2
      refine (addr_bad g _ _ _ r s.1 (startsT s.2 r.N) w hn hD rfl hr hk k1 hby rfl h6 (starts_len _ _) (starts_some hk k1 k3)).mono ?_
      rintro e' w' ⟨rfl, hb⟩
      exact ⟨rfl, hb.mono hB, fun h => absurd h hr⟩
    · refine (addr_bad g _ _ _ r [] [] w hn hD rfl hr hk k1 (Bys.nil _ _ _) rfl (by simp) (by simp) (starts_none hk k1)).mono ?_
      rintro e' w' ⟨rfl, hb⟩
      exact ⟨rfl, hb.mono hB, fun h => absurd h hr⟩
  rw [hr, errV_none]
  have hd6 := (recE_zero hr).2.2.2.2
  rcases hd with ⟨h6, x, c, b, k1, k2, k3, k4, k5⟩ | ⟨h6, k1, k4⟩
  · obtain ⟨xx, cc, e2, hby⟩ := rowb_bys k2 (by omega) hs.1
    simp only [Value.slice.injEq, true_and] at e2
    obtain ⟨rfl, rfl⟩ := e2
    have hp := pack_is r.N hs.2.1
    have ho : packOut s.1 r.N (startsT s.2 r.N) ++ fieldsN r.ty r.cl r.ttl r.D = (stepR s r).1 := by rw [hp.1]; rfl
    by_cases c6 : (stepR s r).1.length ≤ 65535
    · refine (addr_core g _ _ r s.1 (stepR s r).1 (startsT s.2 r.N) _ _ w hn hD hdz hr k1 hby rfl h6 (starts_len _ _) (starts_some hk k1 k3) hp.2 ho (keep_on k1 k3 c6 hk (kept_le _ _) (kept_new _ _) (by have := hs.2.2; omega) hB k4 k5)).mono ?_
      rintro e' w' ⟨rfl, h1, h2⟩
      exact ⟨rfl, h2, fun _ => Or.inl ⟨c6, h1⟩⟩
    · have := (check_zero hk).2
      refine (addr_core g _ _ r s.1 (stepR s r).1 (startsT s.2 r.N) _ _ w hn hD hdz hr k1 hby rfl h6 (starts_len _ _) (starts_some hk k1 k3) hp.2 ho (keep_to_full k1 (Or.inr (by omega)) (by omega) hB k4)).mono ?_
      rintro e' w' ⟨rfl, h1, h2⟩
      exact ⟨rfl, h2, fun _ => Or.inr ⟨by omega, h1⟩⟩
  · have hsm := pack_small hk [] [] (by simp)
    simp only [List.length_nil] at hsm
    refine (addr_core g _ _ r [] (packOut [] r.N [] ++ fieldsN r.ty r.cl r.ttl r.D) [] (packTold [] r.N []) _ w hn hD hdz hr k1 (Bys.nil _ _ _) rfl (by simp) (by simp) (starts_none hk k1) rfl rfl (keep_to_full k1 (Or.inl rfl) (by rw [List.length_append, fields_len]; omega) hB k4)).mono ?_
    rintro e' w' ⟨rfl, h1, h2⟩
    exact ⟨rfl, h2, fun _ => Or.inr ⟨by omega, h1⟩⟩

end Go.Proofs.YtbbgabdiikdjpaaDoor
