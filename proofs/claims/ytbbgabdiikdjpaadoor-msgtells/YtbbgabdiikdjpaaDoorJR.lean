/-
  The walks of small functions of package pointsmanref1: Texts, pair, word, Start. The walk of Packed of package pointsmanref1: a name behind a message, by the starts that were told. The walks of the document's own answers for names: Small, Numbers, Labels, Names, Below. They only read, and hand back what the plain functions tell. errors.As at the project's own kind of error, by a contract: an error of that kind is found, and its number is laid where the target points; four new blocks, nothing else has turned. Closed facts on the model's entries for the library's own small reflection, at this program's numbers. The walks of the document's own answers NameFault and Folded, and of Told and Error, by which errors are asked. The walks of RecordFault and WithRecord of package pointsmanref1. The walk of MessageBytes of package pointsmanref1: the bytes of a message, as Write of package msg has them. The walk of MsgTells. Written by genmlaw.py.
-/
import Derived.Test.YtbbgabdiikdjpaaDoorRefAt
import Derived.Test.YtbbgabdiikdjpaaDoorMgW
import Derived.Test.YtbbgabdiikdjpaaDoorMsgInts
import Derived.Test.YtbbgabdiikdjpaaDoorMgAll
import Derived.Test.YtbbgabdiikdjpaaDoorJF
import Derived.Test.YtbbgabdiikdjpaaDoorWalkA
import Derived.LaidEql
import Derived.Stop.Asserts
import Derived.RowKitTokens
import Derived.Test.YtbbgabdiikdjpaaDoorWalkB
import Derived.Test.YtbbgabdiikdjpaaDoorMgKeep
import Derived.Test.YtbbgabdiikdjpaaDoorJA
import Derived.Test.YtbbgabdiikdjpaaDoorJC
import Derived.Test.YtbbgabdiikdjpaaDoorJE
namespace Go.Proofs.YtbbgabdiikdjpaaDoor
open Go.RowKit Go.Deep

set_option maxHeartbeats 400000 in
theorem rtexts_any (xa xb : Option Addr) (ca cb : Nat) (a b : List ByteArray) (w : World) (ha : Strs w xa ca a) (hb : Strs w xb cb b) :
    Calls Tryd.prog 82 #[.slice xa a.length ca, .slice xb b.length cb] w fun e w' => e = .returned (.bool (decide (a = b))) ∧ Drawn w w' := by
  have la : a.length ≤ 8796093022208 := ha.2.1
  have lb : b.length ≤ 8796093022208 := hb.2.1
  by_cases hle : b.length = a.length
  · have hg : ((a.length : Int) != (b.length : Int)) = false := by simp; omega
    have HL := hid hle
    clear hle
    go_enter Tryd.func82, Tryd.ntmps82
    go_wp2
    go_loopw [5] (fun c wr => ∃ k : Nat, k ≤ a.length ∧ c = .int .i64 (k : Int) ∧ a.take k = b.take k ∧ Drawn w wr) (fun c _ => a.length - (intOf c).toNat)
    case atStart => exact ⟨0, Nat.zero_le _, rfl, rfl, Drawn.refl w⟩
    case round =>
      obtain ⟨k, hka, rfl, hal, hdr⟩ := hrel
      have HA := hid hal
      clear hal
      by_cases h1 : k < a.length
      · have h2 : k < b.length := by rw [HL.out]; exact h1
        obtain ⟨_, _, sa, da⟩ := ha.drawn hdr
        obtain ⟨_, _, sb, db⟩ := hb.drawn hdr
        rcases da with da | ⟨ba, oa, rfl, _, qa⟩
        · rw [da] at h1; simp at h1
        rcases db with db | ⟨bb, ob, rfl, _, qb⟩
        · rw [db] at h2; simp at h2
        have fa := qa k (by omega)
        have fb := qb k (by omega)
        clear qa qb sa sb
        have N1 := hid (take_next HA.out h1 h2)
        have N2 := hid (@text_neq a b k)
        generalize a.getD k ByteArray.empty = sa at *
        generalize b.getD k ByteArray.empty = sb at *
        go_wp2
        go_quiet (fail)
        go_wp2
        · go_ret
          exact ⟨ret_bool (N2.out ‹_›), hdr.more _⟩
        · exact ⟨⟨k + 1, by omega, by go_num, N1.out (text_eq _ _ ‹_›), hdr.more _⟩, by simp [intOf]; omega⟩
      · go_wp2
        go_ret
        exact ⟨ret_bool (take_all HA.out (by omega) HL.out), hdr⟩
  · have hg : ((a.length : Int) != (b.length : Int)) = true := by rw [bne_iff_ne]; omega
    have e : decide (a = b) = false := decide_eq_false (fun h => hle (by rw [h]))
    rw [e]
    clear e
    go_enter Tryd.func82, Tryd.ntmps82
    go_wp2
    go_ret
    exact ⟨rfl, Drawn.refl w⟩

theorem rtexts_at (r : Bool) {xa xb : Option Addr} {ca cb la lb : Nat} (a b : List ByteArray) (w : World) (ha : Strs w xa ca a) (hb : Strs w xb cb b) (hla : a.length = la) (hlb : b.length = lb) (hr : decide (a = b) = r) :
    Calls Tryd.prog 82 #[.slice xa la ca, .slice xb lb cb] w fun e w' => e = .returned (.bool r) ∧ Below w.heap.size w w' := by
  subst hla hlb hr
  exact (rtexts_any xa xb ca cb a b w ha hb).mono fun _ _ ⟨a, b⟩ => ⟨a, b.below _⟩

set_option maxRecDepth 100000 in
/-- A pair of bytes, in new memory. -/
theorem rpair_any (n : Int) (w : World) (h0 : 0 ≤ n) (h1 : n ≤ 65535) :
    Calls Tryd.prog 37 #[.int .i64 n] w fun e w' => e = .returned (.slice (some ⟨w.heap.size, 0, none⟩) 2 2) ∧ Bys w' (some ⟨w.heap.size, 0, none⟩) 2 (twoN n) ∧ w.grownBy w' none ∧ Below w.heap.size w w' := by
  have e1 : n / 256 = n / 256 % 256 := by omega
  have hb : ∀ b ∈ twoN n, 0 ≤ b ∧ b ≤ 255 := two_bytes n
  have K : Hid (Bys (w.alloc (.cells #[.int .u8 (n / 256), .int .u8 (n % 256)] 5)) (some ⟨w.heap.size, 0, none⟩) 2 (twoN n)) := hid (by
    have := bys_new w (twoN n) hb (by simp [twoN])
    simpa [twoN, ← e1] using this)
  clear hb e1
  go_enter Tryd.func37, Tryd.ntmps37
  go_wp2_with fail
  go_ret
  exact ⟨rfl, K.out, ⟨rfl, rfl, rfl, by simp, fun k hk _ => Below.heap_alloc w _ k hk⟩, (Below.refl _ w).alloc (Nat.le_refl _) _⟩

set_option maxRecDepth 100000 in
theorem rword_any (r : Bool) (n : Int) (w : World) (hr : decide (0 ≤ n ∧ n ≤ 65535) = r) :
    Calls Tryd.prog 39 #[.int .i64 n] w fun e w' => e = .returned (.bool r) ∧ w' = w := by
  by_cases h0 : 0 ≤ n
  · by_cases h1 : n ≤ 65535
    · have e : r = true := by rw [← hr]; exact decide_eq_true ⟨h0, h1⟩
      subst e
      clear hr
      go_enter Tryd.func39, Tryd.ntmps39
      go_wp2_with fail
      go_ret
      exact ⟨rfl, rfl⟩
    · have e : r = false := by rw [← hr]; exact decide_eq_false (fun q => h1 q.2)
      subst e
      clear hr
      go_enter Tryd.func39, Tryd.ntmps39
      go_wp2_with fail
      go_ret
      exact ⟨rfl, rfl⟩
  · have e : r = false := by rw [← hr]; exact decide_eq_false (fun q => h0 q.1)
    subst e
    clear hr
    go_enter Tryd.func39, Tryd.ntmps39
    go_wp2_with fail
    go_ret
    exact ⟨rfl, rfl⟩

/-- Where just these labels stand, or -1. -/
def startI (tab : List (Int × List ByteArray)) (n : List ByteArray) : Int := match findT tab n with | some p => p | none => -1

theorem find_next {tab : List (Int × List ByteArray)} {n : List ByteArray} {k : Nat} (hk : k < tab.length) (h : findT (tab.take k) n = none) (hn : ¬ tab[k].2 = n) : findT (tab.take (k + 1)) n = none := by
  rw [List.take_succ_eq_append_getElem hk, findT_append, h]
  simp only [findT, if_neg hn]

theorem find_here {tab : List (Int × List ByteArray)} {n : List ByteArray} {k : Nat} (hk : k < tab.length) (h : findT (tab.take k) n = none) (hn : tab[k].2 = n) : findT tab n = some tab[k].1 := by
  have e : findT tab n = findT (tab.take k ++ tab[k] :: tab.drop (k + 1)) n := by rw [← List.drop_eq_getElem_cons hk, List.take_append_drop]
  rw [e, findT_append, h]
  simp only [findT, if_pos hn]

theorem getD_fst (tab : List (Int × List ByteArray)) (k : Nat) (hk : k < tab.length) : (tab.map (·.1)).getD k 0 = tab[k].1 := by
  rw [List.getD_eq_getElem?_getD, List.getElem?_map, List.getElem?_eq_getElem hk]
  rfl

set_option maxHeartbeats 1000000 in
set_option maxRecDepth 100000 in
theorem start_any {x z y : Option Addr} {c d q l lz ln : Nat} (r : Int) (ms : List Int) (tab : List (Int × List ByteArray)) (n : List ByteArray) (w : World) (h : Bys w x c ms) (hz : Ints w z d (tab.map (·.1))) (hn : Strs w y q n) (ht : TabOk ms tab) (hl : ms.length = l) (hlz : tab.length = lz) (hln : n.length = ln) (hr : startI tab n = r) :
    Calls Tryd.prog 60 #[.slice x l c, .slice z lz d, .slice y ln q] w fun e w' => e = .returned (.int .i64 r) ∧ Below w.heap.size w w' := by
  subst hl hlz hln
  have HR := hid hr
  have HT := hid ht
  have HH := hid h
  have HZ := hid hz
  have HN := hid hn
  have hzl : tab.length ≤ 17592186044416 := by have := hz.2.1; rwa [List.length_map] at this
  clear hr ht h hz hn
  go_enter Tryd.func60, Tryd.ntmps60
  go_wp2_with fail
  go_loopw [7] (fun vi wr => ∃ k : Nat, k ≤ tab.length ∧ vi = .int .i64 (k : Int) ∧ findT (tab.take k) n = none ∧ Below w.heap.size w wr) (fun i _ => tab.length - (intOf i).toNat)
  case atStart => exact ⟨0, Nat.zero_le _, rfl, rfl, Below.refl _ _⟩
  case round =>
    obtain ⟨k, hk, rfl, hf, hbel⟩ := hrel
    have HF := hid hf
    clear hf
    by_cases ck : k < tab.length
    · have ck2 : (k : Int) < (tab.length : Int) := by omega
      obtain ⟨bz, oz, rfl, hbz, qz⟩ : ∃ b off, z = some ⟨b, off, none⟩ ∧ b < wr.heap.size ∧ ∀ i, i < (tab.map (·.1)).length → wr.cell? ⟨b, off + i, none⟩ = some (.int .i64 ((tab.map (·.1)).getD i 0)) := by
        rcases (HZ.out.below hbel).2.2.2 with hd | hd
        · have : (tab.map (·.1)).length = 0 := by rw [hd]; rfl
          rw [List.length_map] at this; omega
        · exact hd
      have q1 := qz k (by rw [List.length_map]; exact ck)
      rw [getD_fst tab k ck] at q1
      obtain ⟨⟨p0, p1⟩, _, _, m, hrd⟩ := HT.out tab[k] (List.getElem_mem ck)
      have FN := hid (find_next ck HF.out)
      have FH := hid (find_here ck HF.out)
      have HRD := hid hrd
      have HBL := hid hbel
      clear qz hrd hbel HF
      generalize tab[k] = e at *
      obtain ⟨p, L⟩ := e
      simp only at p0 p1 q1 HRD FN FH
      have p2 : ¬ 16383 < p := by omega
      go_wp2_with fail
      refine (nameAt_at 0 (L.map Nm.bs) m ms p _ (HH.out.below HBL.out) rfl (by omega) HRD.out).mono ?_
      rintro e1 w1 ⟨y1, s1, rfl, hs1, b1⟩
      rw [map_nums, List.length_map] at *
      have A1 := (Below.refl _ w1).alloc (Nat.le_refl _) (.cells #[.slice y1 L.length s1, .int .i64 (m : Int), .int .i64 0] 62)
      have B1 := hid (grown_on (grown_on HBL.out b1) A1)
      have S1 := hid (hs1.below A1)
      have q2 : (w1.alloc (.cells #[.slice y1 L.length s1, .int .i64 (m : Int), .int .i64 0] 62)).cell? ⟨bz, oz + k, none⟩ = some (.int .i64 p) := ((grown_on b1 A1).cell (p := ⟨bz, oz + k, none⟩) hbz).trans q1
      have BW := hid (grown_on b1 A1)
      clear hs1 b1 A1 HBL HRD
      by_cases hL : L = n
      · have HD := hid (decide_eq_true hL)
        have HA := hid (FH.out hL)
        have HL := hid hL
        clear hL FN FH
        go_wp2_with fail
        refine (rtexts_at true L n _ S1.out (HN.out.below B1.out) rfl rfl HD.out).mono ?_
        rintro e2 w2 ⟨rfl, b2⟩
        have q3 : w2.cell? ⟨bz, oz + k, none⟩ = some (.int .i64 p) := ((grown_on BW.out b2).cell (p := ⟨bz, oz + k, none⟩) hbz).trans q1
        have B2 := hid (grown_on B1.out b2)
        have HP : Hid (p = r) := hid (by rw [← HR.out]; unfold startI; rw [HA.out])
        clear q1 q2 b2 B1 BW
        go_wp2_with fail
        go_ret
        rw [← HP.out]
        exact ⟨rfl, B2.out⟩
      · have HD := hid (decide_eq_false hL)
        have HA := hid (FN.out hL)
        clear hL FN FH
        go_wp2_with fail
        refine (rtexts_at false L n _ S1.out (HN.out.below B1.out) rfl rfl HD.out).mono ?_
        rintro e2 w2 ⟨rfl, b2⟩
        have B2 := hid (grown_on B1.out b2)
        clear q1 q2 b2 B1 BW
        go_wp2_with fail
        exact ⟨⟨k + 1, by omega, by go_num, HA.out, B2.out⟩, by simp [intOf]; omega⟩
    · have ek : k = tab.length := by omega
      subst ek
      have ck2 : ¬ (tab.length : Int) < (tab.length : Int) := by omega
      have HP : Hid (-1 = r) := hid (by have e := HF.out; rw [List.take_length] at e; rw [← HR.out]; unfold startI; rw [e])
      go_wp2_with fail
      go_ret
      rw [← HP.out]
      exact ⟨rfl, hbel⟩

end Go.Proofs.YtbbgabdiikdjpaaDoor

namespace Go.Proofs.YtbbgabdiikdjpaaDoor
open Go.RowKit Go.Deep

theorem best_is {tab : List (Int × List ByteArray)} {n : List ByteArray} {k : Nat} {p : Int} (hk : k < n.length) (h1 : ∀ j, j < k → findT tab (n.drop j) = none) (h2 : findT tab (n.drop k) = some p) : bestT tab n = some (k, p) := by
  cases hb : bestT tab n with
  | none => rw [best_none hb k hk] at h2; cases h2
  | some e =>
    obtain ⟨k', p'⟩ := e
    obtain ⟨g1, g2, g3⟩ := best_some hb
    have hkk : k' = k := by
      rcases Nat.lt_trichotomy k' k with q | q | q
      · rw [h1 k' q] at g2; cases g2
      · exact q
      · rw [g3 k q] at h2; cases h2
    subst hkk
    rw [g2] at h2
    cases h2
    rfl

theorem best_empty {tab : List (Int × List ByteArray)} {n : List ByteArray} (h1 : ∀ j, j < n.length → findT tab (n.drop j) = none) : bestT tab n = none := by
  cases hb : bestT tab n with
  | none => rfl
  | some e =>
    obtain ⟨k', p'⟩ := e
    obtain ⟨g1, g2, g3⟩ := best_some hb
    rw [h1 k' g1] at g2; cases g2

/-- Numbers appended to a row of the call's own. -/
theorem wpList_append_ints {w : World} {B : Nat} {v : Value} {xs ys : List Int} {y : Option Addr} {c : Nat} {ops : Array Oper} {rest : List Oper} {o : Oper} {a : Act} {Q : Exit → Act → World → Prop} (hgd : o.guard = none) (sl x : Operand)
    (ho : o.op = .call { callee := .builtin .append, args := #[sl, x], argTypes := #[89, 89] }) (hs : a.eval sl = v) (hx : a.eval x = .slice y ys.length c) (hr : Rowi w B v xs) (hy : Ints w y c ys) (hl : xs.length + ys.length ≤ 10000000000000) (hB : B ≤ w.heap.size)
    (hK : ∀ v' w', Rowi w' B v' (xs ++ ys) → w.grownBy w' v.ownBlock → wpList Tryd.prog ops Q rest (a.put o.dst v') w') : wpList Tryd.prog ops Q (o :: rest) a w := by
  obtain ⟨i0, hi, hz0, hz1, hz2⟩ := info_of_int
  cases y with
  | none =>
    have hn : ys = [] := by
      rcases hy.2.2.2 with q | ⟨b, off, q, _⟩
      · exact q
      · cases q
    subst hn
    refine wpList_plain hgd fun K hK' => ?_
    have hv : ∃ base cap, v = .slice base xs.length cap ∧ xs.length ≤ cap := by
      rcases hr.2 with ⟨e, e2⟩ | ⟨g, cap, cur, e, _, _, hn, _⟩
      · exact ⟨none, 0, by rw [e, e2], by omega⟩
      · exact ⟨_, cap, e, hn⟩
    obtain ⟨base, cap, rfl, hle⟩ := hv
    have hrun := run_append_nothing (P := Tryd.prog) w 89 89 o.type 3 i0 Tryd.underlying89 hi base xs.length cap hle _ (Src.ofNil w Tryd.underlying89 c)
    simp only [List.length_nil] at hx
    unfold Oper.wp execOp
    simp only [ho, resolve, invoke, builtin, Sem.run_bind, Sem.run_pure, Result.andThen_ok, List.map_toArray, List.map_cons, List.map_nil, hs, hx, hrun]
    exact hK' _ _ (hK _ w (by rw [List.append_nil]; exact hr) ⟨rfl, rfl, rfl, Nat.le_refl _, fun k _ _ => rfl⟩)
  | some ad =>
    have hq : ∀ j u, (ys.map (Value.int .i64))[j]? = some u → w.cell? (ad.add j) = some u := by
      rcases hy.2.2.2 with q | ⟨b, off, q, _, q2⟩
      · subst q; simp
      · cases q
        intro j u h
        rw [Go.WideShapes.add_plain]
        rw [List.getElem?_map] at h
        cases e : ys[j]? with
        | none => rw [e] at h; simp at h
        | some s =>
          rw [e] at h
          simp at h
          have hj : j < ys.length := by
            rcases Nat.lt_or_ge j ys.length with k | k
            · exact k
            · rw [List.getElem?_eq_none k] at e; simp at e
          rw [q2 j hj, List.getD_eq_getElem?_getD, e]
          simp [h]
    refine wpList_append_own _ hgd sl x 89 ho B 3 i0 (.int .i64 0) 1 8 Tryd.underlying89 hi hz0 hz1 hz2 rfl (by decide) v _ _ hs hr ad ys.length c (ys.map (Value.int .i64)) hx (by simp) hq (one_ints ys) (by unfold maxLen; omega) (by omega) hB ?_
    intro v' w1 hown hg _
    exact hK v' w1 (Rowi.of hown (by simp) (by simp)) hg

theorem check_one {n : List ByteArray} (h : Nm.checkN (n.map Nm.bs) = 0) {k : Nat} (hk : k < n.length) : Nm.checkN ([n.getD k ByteArray.empty].map Nm.bs) = 0 := by
  have hs := label_size h hk
  refine check_of ?_ ?_
  · simp only [List.map_cons, List.map_nil, List.all_cons, List.all_nil, Bool.and_true]
    unfold Nm.okL
    refine decide_eq_true ?_
    rw [bs_length]; omega
  · simp only [List.map_cons, List.map_nil, Nm.total_cons, bs_length]
    have e : Nm.total [] = 0 := rfl
    rw [e]; omega

theorem strs_one {w : World} {b off c : Nat} {ss : List ByteArray} (h : Strs w (some ⟨b, off, none⟩) c ss) (k : Nat) (hk : k < ss.length) : Strs w (some ⟨b, off + k, none⟩) (c - k) [ss.getD k ByteArray.empty] := by
  obtain ⟨h1, h2, h3, h4⟩ := h
  rcases h4 with q | ⟨b', o', e, hb, hc⟩
  · rw [q] at hk; simp at hk
  · cases e
    refine ⟨by simp; omega, by simp, fun s hs => ?_, Or.inr ⟨b, off + k, rfl, hb, fun i hi => ?_⟩⟩
    · rw [List.mem_singleton.1 hs, List.getD_eq_getElem?_getD, List.getElem?_eq_getElem hk]
      exact h3 _ (List.getElem_mem hk)
    · have : i = 0 := by simpa using hi
      subst this
      rw [Nat.add_zero, hc k hk]
      rfl

/-- Behind some labels. -/
def PkRel (ms : List Int) (tab : List (Int × List ByteArray)) (n : List ByteArray) (k : Nat) (w : World) (vo va vi : Value) (wr : World) : Prop :=
  ∃ i : Nat, i ≤ k ∧ vi = .int .i64 (i : Int) ∧ Rowb wr w.heap.size vo (ms ++ Nm.sentL ((n.map Nm.bs).take i)) ∧ Rowi wr w.heap.size va (tab.map (·.1) ++ placesN ms.length (n.map Nm.bs) i) ∧ Below w.heap.size w wr

def PackedPost (ms : List Int) (tab : List (Int × List ByteArray)) (n : List ByteArray) (w : World) (e : Ending) (w' : World) : Prop :=
  ∃ v u, e = .returned (.tuple #[v, u]) ∧ Rowb w' w.heap.size v (ms ++ packB tab n) ∧ Rowi w' w.heap.size u ((tab ++ newT ms.length n (keptN tab n)).map (·.1)) ∧ Below w.heap.size w w'

set_option maxHeartbeats 2000000 in
set_option maxRecDepth 100000 in
theorem packed_any {x z y : Option Addr} {c d q l lz ln : Nat} (ms : List Int) (tab : List (Int × List ByteArray)) (n : List ByteArray) (w : World) (h : Bys w x c ms) (hz : Ints w z d (tab.map (·.1))) (hn : Strs w y q n) (ht : TabOk ms tab) (hl : ms.length = l) (hlz : tab.length = lz) (hln : n.length = ln) (hk : Nm.checkN (n.map Nm.bs) = 0) (hml : ms.length ≤ 90000000000000) (htl : tab.length ≤ 9000000000000) :
    Calls Tryd.prog 40 #[.slice x l c, .slice z lz d, .slice y ln q] w (PackedPost ms tab n w) := by
  subst hl hlz hln
  have h254 := check_len hk
  rw [List.length_map] at h254
  have hcap : n.length ≤ q := hn.1
  have HK := hid hk
  have HT := hid ht
  have HH := hid h
  have HZ := hid hz
  have HN := hid hn
  clear hk ht h hz hn
  go_enter Tryd.func40, Tryd.ntmps40
  go_wp2_with fail
  go_loopw [8] (fun vi wr => ∃ k : Nat, k ≤ n.length ∧ vi = .int .i64 (k : Int) ∧ (∀ j, j < k → findT tab (n.drop j) = none) ∧ Below w.heap.size w wr) (fun i _ => n.length - (intOf i).toNat)
  case atStart => exact ⟨0, Nat.zero_le _, rfl, fun j hj => by omega, Below.refl _ _⟩
  case round =>
    obtain ⟨k, hkl, rfl, hf, hbel⟩ := hrel
    have HF := hid hf
    have HB := hid hbel
    clear hf hbel
    have three : (k < n.length ∧ findT tab (n.drop k) = none) ∨ (k < n.length ∧ ∃ p, findT tab (n.drop k) = some p) ∨ k = n.length := by
      rcases Nat.lt_or_ge k n.length with g | g
      · cases hfk : findT tab (n.drop k) with
        | none => exact Or.inl ⟨g, rfl⟩
        | some p => exact Or.inr (Or.inl ⟨g, p, rfl⟩)
      · exact Or.inr (Or.inr (by omega))
    rcases three with ⟨ck, hfk⟩ | ⟨ck, r, hfk⟩ | ek
    · have ck2 : (k : Int) < (n.length : Int) := by omega
      have ck3 : (k : Int) ≤ (n.length : Int) := by omega
      have ck4 : ¬ q = k := by omega
      obtain ⟨bn, on, rfl⟩ : ∃ b off, y = some ⟨b, off, none⟩ := by
        rcases HN.out.2.2.2 with hd | ⟨b, off, hd, _⟩
        · rw [hd] at ck; simp at ck
        · exact ⟨b, off, hd⟩
      have SD := hid (strs_drop (HN.out.below HB.out) k hkl)
      have HR : Hid (startI tab (n.drop k) = -1) := hid (by unfold startI; rw [hfk])
      have HX := hid hfk
      clear hfk
      go_wp2_with fail
      refine (start_any (-1) ms tab (n.drop k) _ (HH.out.below HB.out) (HZ.out.below HB.out) SD.out HT.out rfl rfl (by rw [List.length_drop]) HR.out).mono ?_
      rintro e w1 ⟨rfl, b1⟩
      have B1 := hid (grown_on HB.out b1)
      clear b1 HB
      go_wp2_with fail
      refine ⟨⟨k + 1, by omega, by go_num, fun j hj => ?_, B1.out⟩, by simp [intOf]; omega⟩
      rcases Nat.lt_or_ge j k with g | g
      · exact HF.out j g
      · have : j = k := by omega
        rw [this]; exact HX.out
    case' inr.inl =>
      have ck2 : (k : Int) < (n.length : Int) := by omega
      have ck3 : (k : Int) ≤ (n.length : Int) := by omega
      have ck4 : ¬ q = k := by omega
      obtain ⟨bn, on, rfl⟩ : ∃ b off, y = some ⟨b, off, none⟩ := by
        rcases HN.out.2.2.2 with hd | ⟨b, off, hd, _⟩
        · rw [hd] at ck; simp at ck
        · exact ⟨b, off, hd⟩
      have SD := hid (strs_drop (HN.out.below HB.out) k hkl)
      have HR : Hid (startI tab (n.drop k) = r) := hid (by unfold startI; rw [hfk])
      obtain ⟨rp0, rp1⟩ : 0 ≤ r ∧ r ≤ 16383 := (HT.out _ (findT_some hfk)).1
      have hr0 : ¬ r < 0 := by omega
      have hb := best_is ck HF.out hfk
      have KN : Hid (keptN tab n = k) := hid (by unfold keptN; rw [hb])
      have PB : Hid (packB tab n = Nm.sentL ((n.map Nm.bs).take k) ++ [192 + r / 256, r % 256]) := hid (by unfold packB; rw [hb])
      clear hfk hb HF
      go_wp2_with fail
      refine (start_any r ms tab (n.drop k) _ (HH.out.below HB.out) (HZ.out.below HB.out) SD.out HT.out rfl rfl (by rw [List.length_drop]) HR.out).mono ?_
      rintro e w1 ⟨rfl, b1⟩
      have B1 := hid (grown_on HB.out b1)
      clear b1 HB SD
    case' inr.inr =>
      have ck2 : ¬ (k : Int) < (n.length : Int) := by omega
      have hb := best_empty (tab := tab) (n := n) (by rw [← ek]; exact HF.out)
      have KN : Hid (keptN tab n = k) := hid (by unfold keptN; rw [hb, ek])
      have PB : Hid (packB tab n = Nm.sentL ((n.map Nm.bs).take k) ++ [0]) := hid (by unfold packB; rw [hb, List.take_of_length_le (by simp; omega)])
      have EK := hid ek
      obtain ⟨w1, hw1⟩ : ∃ u, u = wr := ⟨_, rfl⟩
      subst hw1
      have B1 := HB
      clear hb HF HB ek
    all_goals
      have hB1 := B1.out.size
      have E1 : Hid (Rowb (w1.alloc (.cells #[] 5)) w.heap.size (.slice (some ⟨w1.heap.size, 0, none⟩) 0 0) []) := hid (owns_base (owns_empty w1 5) hB1)
      go_wp2_with (at_builtin; refine wpList_append_bys rfl _ _ rfl rfl rfl E1.out ((HH.out.below B1.out).below ((Below.refl _ _).alloc (Nat.le_refl _) _)) (by simp; omega) (by simp; omega) ?_)
      intro v2 w2 r2 g2
      have B2 := hid (grown_below E1.out (B1.out.alloc hB1 _) (by simp; omega) g2)
      have R2 : Hid (Rowb w2 w.heap.size v2 ms) := hid r2
      have hB2 := B2.out.size
      clear r2 g2 E1 B1 hB1
      have E2 : Hid (Rowi (w2.alloc (.cells #[] 3)) w.heap.size (.slice (some ⟨w2.heap.size, 0, none⟩) 0 0) []) := hid (owns_base (owns_empty w2 3) hB2)
      go_wp2_with (at_builtin; refine wpList_append_ints (ys := tab.map (·.1)) rfl _ _ rfl rfl (by simp only [List.length_map]; rfl) E2.out ((HZ.out.below B2.out).below ((Below.refl _ _).alloc (Nat.le_refl _) _)) (by simp; omega) (by simp; omega) ?_)
      intro v3 w3 r3 g3
      have B3 := hid (grown_below E2.out (B2.out.alloc hB2 _) (by simp; omega) g3)
      have R3 : Hid (Rowi w3 w.heap.size v3 (tab.map (·.1))) := hid r3
      have R3b : Hid (Rowb w3 w.heap.size v2 ms) := hid (World.ownsRow.kept (World.ownsRow.alloc R2.out _) g3 (apart_of (by decide) (World.ownsRow.alloc R2.out _) E2.out))
      clear r3 g3 E2 B2 hB2 R2
      go_wp2_with fail
      go_loopw [9, 10, 11] (fun vo va vi wr => PkRel ms tab n k w vo va vi wr) (fun _ _ i _ => k - (intOf i).toNat)
      case atStart => exact ⟨0, Nat.zero_le _, rfl, by simpa [Nm.sentL_nil] using R3b.out, by simpa [placesN] using R3.out, B3.out⟩
      case round =>
        obtain ⟨i, hik, rfl, hrb, hri, hbel⟩ := hrel
        have hB := hbel.size
        have hN : (ms ++ Nm.sentL ((n.map Nm.bs).take i)).length = ms.length + Nm.total ((n.map Nm.bs).take i) := by rw [List.length_append, Nm.sentL_length]
        have hT := total_take_le n i HK.out
        obtain ⟨N, hNN⟩ : ∃ N, ms.length + Nm.total ((n.map Nm.bs).take i) = N := ⟨_, rfl⟩
        have PY := hid (places_yes ms.length (n.map Nm.bs) i)
        have PN := hid (places_no ms.length (n.map Nm.bs) i)
        rw [hNN] at hN PY PN
        have hN5 : N ≤ 90000000000254 := by omega
        have HNL := hid hN
        have PLN := hid (places_len ms.length (n.map Nm.bs) i)
        obtain ⟨sx, sc, rfl⟩ := rowb_len hrb hN
        have HRB := hid hrb
        have HRI := hid hri
        have HBL := hid hbel
        clear hN hNN hT hrb hri hbel
        by_cases ci : i < k
        · have ci2 : (i : Int) < (k : Int) := by omega
          have cin : i < n.length := by omega
          first
            | (obtain ⟨bn, on, rfl⟩ : ∃ b off, y = some ⟨b, off, none⟩ := by
                rcases HN.out.2.2.2 with hd | ⟨b, off, hd, _⟩
                · rw [hd] at cin; simp at cin
                · exact ⟨b, off, hd⟩)
            | skip
          have SN := hid (sent_next n i cin)
          have CO := hid (check_one HK.out cin)
          have hls := label_size HK.out cin
          have HS1 : Hid (∀ u, Below w.heap.size w u → Strs u (some ⟨bn, on + i, none⟩) (q - i) [n.getD i ByteArray.empty]) := hid (fun u hu => strs_one (HN.out.below hu) i cin)
          generalize n.getD i ByteArray.empty = s at *
          obtain ⟨hls1, hls2⟩ := hls
          have ci3 : (i : Int) + 1 ≤ (q : Int) := by omega
          have ci4 : ¬ q = i := by omega
          by_cases c2 : N ≤ 16383
          case' pos =>
            have PL := hid (PY.out c2)
            have c2' : (N : Int) ≤ 16383 := by omega
            have NI : Hid (Ints (wr.alloc (.cells #[.int .i64 (N : Int)] 3)) (some ⟨wr.heap.size, 0, none⟩) 1 [(N : Int)]) := hid ⟨by simp, by simp, fun z hz => by rw [List.mem_singleton.1 hz]; omega, Or.inr ⟨wr.heap.size, 0, rfl, by simp, fun j hj => by
              have : j = 0 := by simpa using hj
              subst this
              rw [World.cell?_alloc_at _ _ _ _ rfl]; rfl⟩⟩
            go_wp2_with (at_builtin; refine wpList_append_ints (ys := [(N : Int)]) rfl _ _ rfl rfl rfl (World.ownsRow.alloc HRI.out _) NI.out (by have := PLN.out; simp; omega) (by simp; omega) ?_)
            intro v4 w4 r4 g4
            have R4 : Hid (Rowi w4 w.heap.size v4 (tab.map (·.1) ++ placesN ms.length (n.map Nm.bs) (i + 1))) := hid (by rw [PL.out]; exact r4)
            have B4 := hid (grown_below HRI.out HBL.out hB (grown_alloc g4))
            have R4b : Hid (Rowb w4 w.heap.size (.slice sx N sc) (ms ++ Nm.sentL ((n.map Nm.bs).take i))) := hid (World.ownsRow.kept HRB.out (grown_alloc g4) (apart_of (by decide) HRB.out HRI.out))
            clear r4 g4 NI HRI HRB HBL PL PY PN hB
          case' neg =>
            have PL := hid (PN.out c2)
            have c2' : ¬ (N : Int) ≤ 16383 := by omega
            obtain ⟨w4, hw4⟩ : ∃ u, u = wr := ⟨_, rfl⟩
            subst hw4
            have R4 : Hid (Rowi w4 w.heap.size u10 (tab.map (·.1) ++ placesN ms.length (n.map Nm.bs) (i + 1))) := hid (by rw [PL.out]; exact HRI.out)
            have B4 := HBL
            have R4b := HRB
            clear HRI HRB HBL PL PY PN hB
          all_goals
            have hB4 := B4.out.size
            go_wp2_with fail
            refine (sent_any [s] _ (HS1.out _ B4.out) rfl CO.out).mono ?_
            rintro e w5 ⟨x5, c5, rfl, r5, b5⟩
            have hsl : Nm.total ([s].map Nm.bs) = s.size + 1 := by
              simp only [List.map_cons, List.map_nil, Nm.total_cons, bs_length]
              have e : Nm.total [] = 0 := rfl
              omega
            rw [hsl] at r5 ⊢
            have hrl : (Nm.sentL ([s].map Nm.bs) ++ [0]).length = s.size + 1 + 1 := by rw [List.length_append, Nm.sentL_length, hsl]; rfl
            obtain ⟨g5, k5, C5, hv5, _, _, y5⟩ := rowb_open r5 (by rw [hrl]; omega) (by rw [hrl]; omega) (sent_ok CO.out)
            rw [hrl] at hv5
            simp only [Value.slice.injEq, true_and] at hv5
            obtain ⟨rfl, rfl⟩ := hv5
            have hc5 : s.size + 1 + 1 ≤ c5 := by have := y5.1; rwa [hrl] at this
            have hsn : Nm.sentL ([s].map Nm.bs) = (s.size : Int) :: Nm.bs s := by simp only [List.map_cons, List.map_nil, Nm.sentL_cons, Nm.sentL_nil, List.append_nil, bs_length]
            have Y5 : Hid (Bys w5 (some ⟨g5, 0, none⟩) c5 ((s.size : Int) :: Nm.bs s)) := hid (by
              have := y5.take (s.size + 1) (by rw [hrl]; omega)
              rw [List.take_left' (by rw [Nm.sentL_length, hsl])] at this
              rw [← hsn]; exact this)
            have hyl : Hid (((s.size : Int) :: Nm.bs s).length = s.size + 1) := hid (by rw [List.length_cons, bs_length])
            have B5 := hid (grown_on B4.out b5)
            have R5 := hid (owns_stay R4.out b5)
            have R5b := hid (owns_stay R4b.out b5)
            have hB5 := B5.out.size
            clear r5 b5 hsl hrl y5 hsn B4 R4 R4b hB4 HS1 CO
            have i5 : (s.size : Int) + 1 ≤ (c5 : Int) := by omega
            generalize ((s.size : Int) :: Nm.bs s) = Z at *
            go_wp2_with (at_builtin; refine wpList_append_bys (ys := Z) rfl _ _ rfl rfl (by rw [hyl.out]; rfl) (show Rowb w5 w.heap.size _ _ from R5b.out) Y5.out (by rw [HNL.out, hyl.out]; omega) hB5 ?_)
            intro v6 w6 r6 g6
            have R6 : Hid (Rowb w6 w.heap.size v6 (ms ++ Nm.sentL ((n.map Nm.bs).take (i + 1)))) := hid (by rw [SN.out]; simpa using r6)
            have B6 := hid (grown_below (show Rowb w5 w.heap.size _ _ from R5b.out) B5.out hB5 g6)
            have R6i := hid (World.ownsRow.kept R5.out g6 (apart_of (by decide) R5.out R5b.out))
            clear r6 g6 R5 R5b B5 hB5 Y5
            go_wp2_with fail
            exact ⟨⟨i + 1, by omega, by go_num, R6.out, R6i.out, B6.out⟩, by simp [intOf]; omega⟩
        · have ei : i = k := by omega
          have ci2 : ¬ (i : Int) < (k : Int) := by omega
          subst ei
          clear PY PN
          have HX : Hid (Rowi wr w.heap.size u10 ((tab ++ newT ms.length n (keptN tab n)).map (·.1))) := hid (by rw [KN.out, List.map_append, new_fst]; exact HRI.out)
          first
            | (have hkn := EK.out
               have NB : Hid (Bys (wr.alloc (.cells #[.int .u8 0] 5)) (some ⟨wr.heap.size, 0, none⟩) 1 [0]) := hid (bys_new wr [0] (by decide) (by decide))
               have ek2 : ((i : Int) == (n.length : Int)) = true := by rw [hkn]; simp
               clear hkn
               go_wp2_with (at_builtin; refine wpList_append_bys (ys := [0]) rfl _ _ rfl rfl rfl (show Rowb _ w.heap.size _ _ from World.ownsRow.alloc HRB.out _) NB.out (by rw [HNL.out]; simp; omega) (by simp; omega) ?_)
               intro v6 w6 r6 g6
               have R6 : Hid (Rowb w6 w.heap.size v6 (ms ++ packB tab n)) := hid (by rw [PB.out]; simpa using r6)
               have R6i := hid (World.ownsRow.kept HX.out (grown_alloc g6) (apart_of (by decide) HX.out HRB.out))
               have B6 := hid (grown_below HRB.out HBL.out hB (grown_alloc g6))
               clear r6 g6 NB
               go_wp2_with fail
               go_ret2
               exact ⟨_, _, rfl, R6.out, R6i.out, B6.out⟩)
            | (have ek2 : ((i : Int) == (n.length : Int)) = false := by simp; omega
               have SD := hid (strs_drop (HN.out.below HBL.out) i hkl)
               go_wp2_with fail
               refine (start_any r ms tab (n.drop i) _ (HH.out.below HBL.out) (HZ.out.below HBL.out) SD.out HT.out rfl rfl (by rw [List.length_drop]) HR.out).mono ?_
               rintro e w5 ⟨rfl, b5⟩
               have B5 := hid (grown_on HBL.out b5)
               have R5 := hid (owns_stay HX.out b5)
               have R5b := hid (owns_stay HRB.out b5)
               have hB5 := B5.out.size
               have e1 : (192 + r / 256) = (192 + r / 256) := rfl
               have NB : Hid (Bys (w5.alloc (.cells #[.int .u8 (192 + r / 256), .int .u8 (r % 256)] 5)) (some ⟨w5.heap.size, 0, none⟩) 2 [192 + r / 256, r % 256]) := hid (bys_new w5 [192 + r / 256, r % 256] (by intro b hb; simp only [List.mem_cons, List.not_mem_nil, or_false] at hb; rcases hb with q | q <;> omega) (by simp))
               clear b5 HBL HX HRB HRI hB SD e1
               go_wp2_with (at_builtin; refine wpList_append_bys (ys := [192 + r / 256, r % 256]) rfl _ _ rfl rfl rfl (show Rowb _ w.heap.size _ _ from World.ownsRow.alloc R5b.out _) NB.out (by rw [HNL.out]; simp; omega) (by simp; omega) ?_)
               intro v6 w6 r6 g6
               have R6 : Hid (Rowb w6 w.heap.size v6 (ms ++ packB tab n)) := hid (by rw [PB.out]; simpa using r6)
               have R6i := hid (World.ownsRow.kept R5.out (grown_alloc g6) (apart_of (by decide) R5.out R5b.out))
               have B6 := hid (grown_below R5b.out B5.out hB5 (grown_alloc g6))
               clear r6 g6 NB
               go_wp2_with fail
               go_ret2
               exact ⟨_, _, rfl, R6.out, R6i.out, B6.out⟩)

end Go.Proofs.YtbbgabdiikdjpaaDoor

namespace Go.Proofs.YtbbgabdiikdjpaaDoor
open Go.RowKit Go.Deep

theorem cmpI_less {x y : Int} (h : x < y) : Nm.cmpI x y = -1 := by unfold Nm.cmpI; rw [if_pos h]
theorem cmpI_more {x y : Int} (h : y < x) : Nm.cmpI x y = 1 := by unfold Nm.cmpI; rw [if_neg (by omega), if_pos h]
theorem cmpI_same {x y : Int} (h : ¬ x < y) (k : ¬ y < x) : Nm.cmpI x y = 0 := by unfold Nm.cmpI; rw [if_neg h, if_neg k]

/-- The last k labels are alike. -/
def TailTo (a b : List ByteArray) (k : Nat) : Prop := ∀ j, j < k → Nm.cL (a.getD (a.length - (j + 1)) ByteArray.empty) (b.getD (b.length - (j + 1)) ByteArray.empty) = 0

theorem getD_drop (a : List ByteArray) (d i : Nat) : (a.drop d).getD i ByteArray.empty = a.getD (d + i) ByteArray.empty := by
  simp [List.getD_eq_getElem?_getD, List.getElem?_drop]

theorem tail_iff {a b : List ByteArray} (h : b.length ≤ a.length) : Nm.under a b = true ↔ TailTo a b b.length := by
  rw [Nm.under_iff]
  constructor
  · rintro ⟨_, e⟩ j hj
    rw [Nm.cL_zero]
    have e2 : ((a.drop (a.length - b.length)).map Nm.fL)[b.length - (j + 1)]? = (b.map Nm.fL)[b.length - (j + 1)]? := by rw [e]
    rw [List.getElem?_map, List.getElem?_map, List.getElem?_drop, List.getElem?_eq_getElem (l := a) (by omega), List.getElem?_eq_getElem (l := b) (by omega)] at e2
    have e3 := Option.some.inj e2
    rw [List.getD_eq_getElem?_getD, List.getD_eq_getElem?_getD, List.getElem?_eq_getElem (l := a) (by omega), List.getElem?_eq_getElem (l := b) (by omega)]
    simp only [Option.getD_some]
    have e4 : a.length - b.length + (b.length - (j + 1)) = a.length - (j + 1) := by omega
    simp only [e4] at e3
    exact e3
  · intro t
    refine ⟨h, ?_⟩
    apply List.ext_getElem
    · simp; omega
    · intro i h1 h2
      rw [List.length_map] at h2
      have := (Nm.cL_zero _ _).1 (t (b.length - (i + 1)) (by omega))
      have e1 : b.length - (b.length - (i + 1) + 1) = i := by omega
      have e2 : a.length - (b.length - (i + 1) + 1) = a.length - b.length + i := by omega
      rw [e1, e2, List.getD_eq_getElem?_getD, List.getD_eq_getElem?_getD, List.getElem?_eq_getElem (l := a) (by omega), List.getElem?_eq_getElem (l := b) h2] at this
      simp only [Option.getD_some] at this
      simpa using this

theorem tail_next {a b : List ByteArray} {k : Nat} (h : TailTo a b k) (e : Nm.cL (a.getD (a.length - (k + 1)) ByteArray.empty) (b.getD (b.length - (k + 1)) ByteArray.empty) = 0) : TailTo a b (k + 1) := by
  intro j hj
  by_cases q : j = k
  · subst q; exact e
  · exact h j (by omega)

theorem tail_not {a b : List ByteArray} {k : Nat} (hl : b.length ≤ a.length) (hk : k < b.length) (e : ¬ Nm.cL (a.getD (a.length - (k + 1)) ByteArray.empty) (b.getD (b.length - (k + 1)) ByteArray.empty) = 0) : false = Nm.under a b := by
  cases q : Nm.under a b
  · rfl
  · exact absurd ((tail_iff hl).1 q k hk) e

theorem tail_all {a b : List ByteArray} {k : Nat} (hl : b.length ≤ a.length) (hk : k = b.length) (h : TailTo a b k) : true = Nm.under a b := by
  subst hk; exact ((tail_iff hl).2 h).symm

end Go.Proofs.YtbbgabdiikdjpaaDoor

namespace Go.Proofs.YtbbgabdiikdjpaaDoor
open Go.RowKit Go.Extern.Stop Go.Stop Go.Extern

theorem As.valueOfP (t : Addr) (w : World) : (ReflectliteValue.unpack (.iface 126 (.pointer (some t)))).run Tryd.prog w
    = .ok (.agg #[.pointer (some ⟨1, 126, none⟩), .pointer (some ⟨w.heap.size, 0, none⟩), .int .u64 150]) (w.alloc (.cells #[.pointer (some t)] 126)) := by kernel_rfl
theorem As.typeP (a : Addr) (w : World) : (ReflectliteValue.methodAny (ReflectliteValue.valueError "reflectlite.Value.Type" 0) (fun t _ _ _ => ReflectliteType.toType t) #[.agg #[.pointer (some ⟨1, 126, none⟩), .pointer (some a), .int .u64 150]]).run Tryd.prog w
    = .ok (.iface 175 (.agg #[.pointer (some ⟨1, 126, none⟩)])) w := by kernel_rfl
theorem As.methodKind (h : Value) (w : World) : (Go.method 318 175 (.agg #[h]) "Kind").run Tryd.prog w = .ok (110, h) w := by kernel_rfl
theorem As.kindP (w : World) : ((ReflectliteType.abiMethod fun t => (fun a : Nat => Value.int IntKind.u8 (a : Int)) <$> Rtype.kind t) #[.pointer (some ⟨1, 126, none⟩)]).run Tryd.prog w = .ok (.int .u8 22) w := by kernel_rfl
theorem As.kindE (w : World) : ((ReflectliteType.abiMethod fun t => (fun a : Nat => Value.int IntKind.u8 (a : Int)) <$> Rtype.kind t) #[.pointer (some ⟨1, 29, none⟩)]).run Tryd.prog w = .ok (.int .u8 2) w := by kernel_rfl

theorem As.methodP (z : Sem Value) (f : TypeId → Addr → Nat → Nat → Sem Value) (a : Addr) (W : World) :
    (ReflectliteValue.method z f #[.agg #[.pointer (some ⟨1, 126, none⟩), .pointer (some a), .int .u64 150]]).run Tryd.prog W = (f 126 a 150 22).run Tryd.prog W := by kernel_rfl
theorem As.isNilP (a p : Addr) (W : World) (ha : W.cell? a = some (.pointer (some p))) :
    (ReflectliteValue.method (ReflectliteValue.valueError "reflectlite.Value.IsNil" 0) ReflectliteValue.isNil #[.agg #[.pointer (some ⟨1, 126, none⟩), .pointer (some a), .int .u64 150]]).run Tryd.prog W = .ok (.bool false) W := by
  rw [As.methodP]
  simp [ReflectliteValue.isNil, loadVar, isAgg, underlying, Tryd.underlying126, ha, Result.andThen]

theorem As.methodElem (h : Value) (w : World) : (Go.method 318 175 (.agg #[h]) "Elem").run Tryd.prog w = .ok (120, .agg #[h]) w := by kernel_rfl
theorem As.methodImplements (h : Value) (w : World) : (Go.method 318 175 (.agg #[h]) "Implements").run Tryd.prog w = .ok (121, .agg #[h]) w := by kernel_rfl
theorem As.methodAssignableTo (h : Value) (w : World) : (Go.method 318 175 (.agg #[h]) "AssignableTo").run Tryd.prog w = .ok (118, .agg #[h]) w := by kernel_rfl
theorem As.elemP (w : World) : (ReflectliteType.method ReflectliteType.elem #[.agg #[.pointer (some ⟨1, 126, none⟩)]]).run Tryd.prog w = .ok (.iface 175 (.agg #[.pointer (some ⟨1, 29, none⟩)])) w := by kernel_rfl
theorem As.implementsE (w : World) : (ReflectliteType.relation "Implements" ReflectliteType.implements_ #[.agg #[.pointer (some ⟨1, 29, none⟩)], .iface 175 (.agg #[.pointer (some ⟨1, 33, none⟩)])]).run Tryd.prog w = .ok (.bool true) w := by kernel_rfl
theorem As.typeOfE (v : Value) (w : World) : (ReflectliteType.typeOf #[.iface 29 v]).run Tryd.prog w = .ok (.iface 175 (.agg #[.pointer (some ⟨1, 29, none⟩)])) w := by kernel_rfl
theorem As.assignableE (w : World) : (ReflectliteType.relation "AssignableTo" ReflectliteType.assignableTo #[.agg #[.pointer (some ⟨1, 29, none⟩)], .iface 175 (.agg #[.pointer (some ⟨1, 29, none⟩)])]).run Tryd.prog w = .ok (.bool true) w := by kernel_rfl
theorem As.valueOfE (k : Int) (w : World) : (ReflectliteValue.unpack (.iface 29 (.int .i64 k))).run Tryd.prog w
    = .ok (.agg #[.pointer (some ⟨1, 29, none⟩), .pointer (some ⟨w.heap.size, 0, none⟩), .int .u64 130]) (w.alloc (.cells #[.int .i64 k] 29)) := by kernel_rfl
theorem As.elemOfP (w : World) : (Rtype.elem? 126).run Tryd.prog w = .ok (some 29) w := by kernel_rfl
theorem As.mkE (p : Addr) (w : World) : (ReflectliteValue.mk 29 p ReflectliteValue.flagAddr).run Tryd.prog w = .ok (.agg #[.pointer (some ⟨1, 29, none⟩), .pointer (some p), .int .u64 386]) w := by kernel_rfl
theorem As.elemVP (a p : Addr) (W : World) (ha : W.cell? a = some (.pointer (some p))) :
    (ReflectliteValue.method (ReflectliteValue.valueError "reflectlite.Value.Elem" 0) ReflectliteValue.elem #[.agg #[.pointer (some ⟨1, 126, none⟩), .pointer (some a), .int .u64 150]]).run Tryd.prog W
      = .ok (.agg #[.pointer (some ⟨1, 29, none⟩), .pointer (some p), .int .u64 386]) W := by
  rw [As.methodP]
  simp [ReflectliteValue.elem, loadVar, isAgg, underlying, Tryd.underlying126, ha, Result.andThen, As.elemOfP, As.mkE]
theorem As.setRun (ta b : Addr) (W : World) :
    (ReflectliteValue.set #[.agg #[.pointer (some ⟨1, 29, none⟩), .pointer (some ta), .int .u64 386], .agg #[.pointer (some ⟨1, 29, none⟩), .pointer (some b), .int .u64 130]]).run Tryd.prog W
      = (loadVar 29 b >>= fun v => storeVar 29 ta v >>= fun _ => pure (.tuple #[])).run Tryd.prog W := by kernel_rfl
theorem As.setE (ta b : Addr) (k : Int) (old : Value) (W : World) (hb : W.cell? b = some (.int .i64 k)) (ht : W.cell? ta = some old) (hf : W.frozen? ta = false) :
    (ReflectliteValue.set #[.agg #[.pointer (some ⟨1, 29, none⟩), .pointer (some ta), .int .u64 386], .agg #[.pointer (some ⟨1, 29, none⟩), .pointer (some b), .int .u64 130]]).run Tryd.prog W
      = .ok (.tuple #[]) (W.setCell ta (.int .i64 k)) := by
  rw [As.setRun]
  simp [loadVar, isAgg, underlying, Tryd.underlying29, hb, Result.andThen, storeVar, Value.cells, storeCells, Addr.add]
  rw [run_store Tryd.prog W ta _ _ (by rfl)]
  simp [ht, hf]

set_option maxHeartbeats 4000000 in
theorem as_hit (k : Int) (t : Addr) (old : Value) (w : World) (hg : w.cell? ⟨0, 0, none⟩ = some (.iface 175 (.agg #[.pointer (some ⟨1, 33, none⟩)]))) (ht0 : w.cell? t = some old) (hf0 : w.frozen? t = false) :
    Calls Tryd.prog 57 #[.iface 29 (.int .i64 k), .iface 126 (.pointer (some t))] w fun ev w' => ev = .returned (.bool true) ∧ w' = ((((w.alloc (.cells #[.pointer (some t)] 126)).alloc (.cells #[.pointer (some ⟨1, 126, none⟩), .pointer (some ⟨w.heap.size, 0, none⟩), .int .u64 150] 156)).alloc (.cells #[.pointer (some ⟨1, 126, none⟩), .pointer (some ⟨w.heap.size, 0, none⟩), .int .u64 150] 156)).alloc (.cells #[.int .i64 k] 29)).setCell t (.int .i64 k) := by
  have h6 := @run_callFunc_extern Tryd.prog 78 _ (fun args => ReflectliteValue.unpack (args.getD 0 (.tuple #[]))) Tryd.func78 (by kernel_rfl) (by kernel_rfl) (by kernel_rfl) (by kernel_rfl)
  have h7 := @run_callFunc_extern Tryd.prog 79 _ (ReflectliteValue.methodAny (ReflectliteValue.valueError "reflectlite.Value.Type" 0) (fun t _ _ _ => ReflectliteType.toType t)) Tryd.func79 (by kernel_rfl) (by kernel_rfl) (by kernel_rfl) (by kernel_rfl)
  have h8 := @run_callFunc_extern Tryd.prog 80 _ (ReflectliteValue.method (ReflectliteValue.valueError "reflectlite.Value.IsNil" 0) ReflectliteValue.isNil) Tryd.func80 (by kernel_rfl) (by kernel_rfl) (by kernel_rfl) (by kernel_rfl)
  have h27 := @run_callFunc_extern Tryd.prog 110 _ (ReflectliteType.abiMethod fun t => do pure (.int .u8 (← Rtype.kind t))) Tryd.func110 (by kernel_rfl) (by kernel_rfl) (by kernel_rfl) (by kernel_rfl)
  have h37 := @run_callFunc_extern Tryd.prog 120 _ (ReflectliteType.method ReflectliteType.elem) Tryd.func120 (by kernel_rfl) (by kernel_rfl) (by kernel_rfl) (by kernel_rfl)
  have h38 := @run_callFunc_extern Tryd.prog 121 _ (ReflectliteType.relation "Implements" ReflectliteType.implements_) Tryd.func121 (by kernel_rfl) (by kernel_rfl) (by kernel_rfl) (by kernel_rfl)
  have h10 := @run_callFunc_extern Tryd.prog 91 _ ReflectliteType.typeOf Tryd.func91 (by kernel_rfl) (by kernel_rfl) (by kernel_rfl) (by kernel_rfl)
  have h35 := @run_callFunc_extern Tryd.prog 118 _ (ReflectliteType.relation "AssignableTo" ReflectliteType.assignableTo) Tryd.func118 (by kernel_rfl) (by kernel_rfl) (by kernel_rfl) (by kernel_rfl)
  have h11 := @run_callFunc_extern Tryd.prog 92 _ (ReflectliteValue.method (ReflectliteValue.valueError "reflectlite.Value.Elem" 0) ReflectliteValue.elem) Tryd.func92 (by kernel_rfl) (by kernel_rfl) (by kernel_rfl) (by kernel_rfl)
  have h12 := @run_callFunc_extern Tryd.prog 93 _ ReflectliteValue.set Tryd.func93 (by kernel_rfl) (by kernel_rfl) (by kernel_rfl) (by kernel_rfl)
  have tO := As.typeOfE
  have mA := As.methodAssignableTo
  have a25 := As.assignableE
  have v25 := As.valueOfE
  have f6 := As.valueOfP
  have f7 := As.typeP
  have mK := As.methodKind
  have mE := As.methodElem
  have mI := As.methodImplements
  have k27 := As.kindP
  have k25 := As.kindE
  have e27 := As.elemP
  have i25 := As.implementsE
  have n8 := As.isNilP ⟨w.heap.size, 0, none⟩ t ((w.alloc (.cells #[.pointer (some t)] 126)).alloc (.cells #[.pointer (some ⟨1, 126, none⟩), .pointer (some ⟨w.heap.size, 0, none⟩), .int .u64 150] 156)) (by simp)
  have hlt : 0 < w.heap.size := by
    rcases Nat.eq_zero_or_pos w.heap.size with h0 | h
    · simp [World.cell?, h0] at hg
    · exact h
  have hg2 : ((w.alloc (.cells #[.pointer (some t)] 126)).alloc (.cells #[.pointer (some ⟨1, 126, none⟩), .pointer (some ⟨w.heap.size, 0, none⟩), .int .u64 150] 156)).cell? ⟨0, 0, none⟩ = some (.iface 175 (.agg #[.pointer (some ⟨1, 33, none⟩)])) := by
    rw [World.cell?_alloc_lt _ _ ⟨0, 0, none⟩ (by simp), World.cell?_alloc_lt _ _ ⟨0, 0, none⟩ hlt]; exact hg
  have htl : t.block < w.heap.size := by
    rcases Nat.lt_or_ge t.block w.heap.size with h | h
    · exact h
    · simp [World.cell?, Array.getElem?_eq_none h] at ht0
  have el := As.elemVP ⟨w.heap.size, 0, none⟩ t (((w.alloc (.cells #[.pointer (some t)] 126)).alloc (.cells #[.pointer (some ⟨1, 126, none⟩), .pointer (some ⟨w.heap.size, 0, none⟩), .int .u64 150] 156)).alloc (.cells #[.pointer (some ⟨1, 126, none⟩), .pointer (some ⟨w.heap.size, 0, none⟩), .int .u64 150] 156)) (by rw [World.cell?_alloc_lt _ _ ⟨w.heap.size, 0, none⟩ (by simp; omega)]; simp)
  have st := As.setE t ⟨w.heap.size + 1 + 1 + 1, 0, none⟩ k old ((((w.alloc (.cells #[.pointer (some t)] 126)).alloc (.cells #[.pointer (some ⟨1, 126, none⟩), .pointer (some ⟨w.heap.size, 0, none⟩), .int .u64 150] 156)).alloc (.cells #[.pointer (some ⟨1, 126, none⟩), .pointer (some ⟨w.heap.size, 0, none⟩), .int .u64 150] 156)).alloc (.cells #[.int .i64 k] 29))
    (by rw [World.cell?_alloc_at _ _ _ _ (by simp)]; rfl)
    (by rw [World.cell?_alloc_lt _ _ t (by simp; omega), World.cell?_alloc_lt _ _ t (by simp; omega), World.cell?_alloc_lt _ _ t (by simp; omega), World.cell?_alloc_lt _ _ t htl]; exact ht0)
    (by rw [World.frozen?_alloc_old _ _ t (by simp; omega), World.frozen?_alloc_old _ _ t (by simp; omega), World.frozen?_alloc_old _ _ t (by simp; omega), World.frozen?_alloc_old _ _ t (Nat.ne_of_lt htl)]; exact hf0)
  go_enter Tryd.func57, Tryd.ntmps57
  go_wp2
  refine wp_loop_rounds 1 ?_
  rw [rounds_succ]
  go_wp2
  go_ret
  exact ⟨rfl, rfl⟩
end Go.Proofs.YtbbgabdiikdjpaaDoor

namespace Go.Proofs.YtbbgabdiikdjpaaDoor
open Go.RowKit Go.Deep

theorem ret_num {k j : Int} (h : k = j) : Ending.returned (.int .i64 j) = .returned (.int .i64 k) := by rw [h]

/-- A number that goes with the bytes so far, as long as they are not too many. -/
def Goes (z : Int) (t : Nat) : Prop := 1 ≤ z ∧ z ≤ 400 ∧ (z ≤ 255 → z = (t : Int) + 1) ∧ (255 < z → 254 < t)

theorem goes_zero : Goes 1 0 := ⟨by omega, by omega, fun _ => by omega, fun h => by omega⟩
theorem goes_next {z : Int} {t s : Nat} (h : Goes z t) (hz : z ≤ 255) (h1 : s ≤ 63) : Goes (z + ((s : Int) + 1)) (t + (s + 1)) := by
  obtain ⟨a, b, c, d⟩ := h
  have := c hz
  exact ⟨by omega, by omega, fun _ => by omega, fun _ => by omega⟩
theorem goes_stays {z : Int} {t s : Nat} (h : Goes z t) (hz : 255 < z) : Goes z (t + s) := by
  obtain ⟨a, b, c, d⟩ := h
  have := d hz
  exact ⟨a, b, fun q => by omega, fun _ => by omega⟩
theorem goes_long {z : Int} {t : Nat} (h : Goes z t) (hz : 255 < z) : 254 < t := h.2.2.2 hz
theorem goes_short {z : Int} {t : Nat} (h : Goes z t) (hz : z ≤ 255) : ¬ 254 < t := by have := h.2.2.1 hz; omega

set_option maxHeartbeats 400000 in
theorem fault_any (x : Option Addr) (c : Nat) (n : List ByteArray) (w : World) (h : Strs w x c n) :
    Calls Tryd.prog 38 #[.slice x n.length c] w fun e w' => e = .returned (.int .i64 (Nm.checkN (n.map Nm.bs))) ∧ w = w' := by
  have hl : n.length ≤ 8796093022208 := h.2.1
  go_enter Tryd.func38, Tryd.ntmps38
  go_wp2
  go_loop [3, 4] (fun s i => ∃ (k t : Nat) (z : Int), k ≤ n.length ∧ s = .int .i64 z ∧ i = .int .i64 (k : Int) ∧ Fine n k t ∧ Goes z t) (fun _ i => n.length - (intOf i).toNat)
  case atStart => exact ⟨0, 0, 1, Nat.zero_le _, rfl, rfl, fine_zero n, goes_zero⟩
  case round =>
    obtain ⟨k, t, z, hk, rfl, rfl, hfine, hgo⟩ := hrel
    have b1 := hgo.1
    have b2 := hgo.2.1
    by_cases h1 : k < n.length
    · obtain ⟨_, _, sa, da⟩ := h
      rcases da with da | ⟨ba, oa, rfl, _, qa⟩
      · rw [da] at h1; simp at h1
      have fa := qa k (by omega)
      have E1 := hid (fine_next hfine h1)
      have E2 := hid (@check_bad n k h1)
      clear qa sa
      generalize n.getD k ByteArray.empty = s at *
      by_cases hs0 : s.size = 0
      · have hz : ((s.size : Int) == 0) = true := beq_iff_eq.2 (by omega)
        have E3 := hid (E2.out (Or.inl hs0))
        clear E1 E2 hs0
        go_wp2
        go_ret
        exact ⟨ret_num E3.out, rfl⟩
      · have hz : ((s.size : Int) == 0) = false := beq_eq_false_iff_ne.2 (by omega)
        by_cases hs1 : 63 < s.size
        · have hs2 : (63 : Int) < (s.size : Int) := by omega
          have E3 := hid (E2.out (Or.inr hs1))
          clear E1 E2
          go_wp2
          go_ret
          exact ⟨ret_num E3.out, rfl⟩
        · have hs2 : ¬ (63 : Int) < (s.size : Int) := by omega
          have hs3 : 1 ≤ s.size := by omega
          by_cases hz2 : z ≤ 255
          · have G := goes_next hgo hz2 (show s.size ≤ 63 by omega)
            clear hgo
            go_wp2
            exact ⟨⟨k + 1, t + (s.size + 1), z + ((s.size : Int) + 1), by omega, by go_num, by go_num, E1.out hs3 (by omega), G⟩, by simp [intOf]; omega⟩
          · have G := goes_stays (s := s.size + 1) hgo (by omega)
            clear hgo
            go_wp2
            exact ⟨⟨k + 1, t + (s.size + 1), z, by omega, rfl, by go_num, E1.out hs3 (by omega), G⟩, by simp [intOf]; omega⟩
    · have E := check_end hfine (by omega)
      by_cases hz2 : z ≤ 255
      · rw [if_neg (goes_short hgo hz2)] at E
        have E3 := hid E
        have i1 : ¬ (255 : Int) < z := by omega
        clear E hz2 hgo
        go_wp2
        go_ret
        exact ⟨ret_num E3.out, rfl⟩
      · rw [if_pos (goes_long hgo (by omega))] at E
        have E3 := hid E
        have i1 : (255 : Int) < z := by omega
        clear E hz2 hgo
        go_wp2
        go_ret
        exact ⟨ret_num E3.out, rfl⟩

theorem fault_at (r : Int) {x : Option Addr} {c l : Nat} (n : List ByteArray) (w : World) (h : Strs w x c n) (hl : n.length = l) (hr : Nm.checkN (n.map Nm.bs) = r) :
    Calls Tryd.prog 38 #[.slice x l c] w fun e w' => e = .returned (.int .i64 r) ∧ w = w' := by
  subst hl hr; exact fault_any x c n w h

theorem folded_next (s : ByteArray) (k : Nat) (h : k < s.size) : ((Nm.bs s).take k).map Nm.foI ++ [Nm.foI (s[k].toNat : Int)] = ((Nm.bs s).take (k + 1)).map Nm.foI := by
  rw [List.take_succ_eq_append_getElem (by rw [bs_length]; exact h), bs_get s k h, List.map_append]; rfl

theorem folded_len (s : ByteArray) (k : Nat) (h : k ≤ s.size) : (((Nm.bs s).take k).map Nm.foI).length = k := by
  rw [List.length_map, List.length_take, bs_length]; omega

theorem folded_all (s : ByteArray) (k : Nat) (h : s.size ≤ k) : ((Nm.bs s).take k).map Nm.foI = (Nm.bs s).map Nm.foI := by
  rw [List.take_of_length_le (by rw [bs_length]; exact h)]

/-- What the library keeps of the type of errors lies where it was laid. -/
def Glob (w : World) : Prop := w.cell? ⟨0, 0, none⟩ = some (.iface 175 (.agg #[.pointer (some ⟨1, 33, none⟩)]))

theorem Glob.pos {w : World} (h : Glob w) : 0 < w.heap.size := by
  rcases Nat.eq_zero_or_pos w.heap.size with h0 | h0
  · unfold Glob at h; simp [World.cell?, h0] at h
  · exact h0

theorem Glob.below {w w' : World} (h : Glob w) (k : Below w.heap.size w w') : Glob w' := by
  unfold Glob at *
  rw [k.cell (p := ⟨0, 0, none⟩) (Glob.pos h)]; exact h

set_option maxHeartbeats 400000 in
theorem told_any (k : Int) (w : World) (hg : Glob w) :
    Calls Tryd.prog 32 #[errV k] w fun e w' => e = .returned (.int .i64 k) ∧ Below w.heap.size w w' := by
  by_cases hk : k = 0
  · subst hk
    rw [errV_none]
    go_enter Tryd.func32, Tryd.ntmps32
    go_wp2
    go_ret
    exact ⟨rfl, Below.refl _ _⟩
  · rw [errV_some hk]
    clear hk
    have hp := hg.pos
    have b1 : Below w.heap.size w (w.alloc (.cells #[.int .i64 0] 29)) := (Below.refl _ _).alloc (Nat.le_refl _) _
    have g1 := hg.below b1
    have BB := hid b1
    clear b1
    go_enter Tryd.func32, Tryd.ntmps32
    go_wp2_with fail
    refine (as_hit k ⟨w.heap.size, 0, none⟩ (.int .i64 0) _ g1 (by simp) (by simp)).mono ?_
    rintro e w1 ⟨rfl, rfl⟩
    go_wp2_with fail
    go_ret
    refine ⟨rfl, ?_⟩
    repeat (first | exact Below.refl _ _ | refine Below.setCell ?_ (Nat.le_refl _) _ | refine Below.alloc ?_ (by simp <;> omega) _)

set_option maxHeartbeats 400000 in
theorem error_any (k j : Int) (w : World) (hg : Glob w) :
    Calls Tryd.prog 7 #[errV k, .int .i64 j] w fun e w' => e = .returned (.bool (k == j)) ∧ Below w.heap.size w w' := by
  go_enter Tryd.func7, Tryd.ntmps7
  go_wp2_with fail
  refine (told_any k _ hg).mono ?_
  rintro e w1 ⟨rfl, b1⟩
  go_wp2_with fail
  go_ret
  exact ⟨rfl, b1⟩

theorem error_at (k j : Int) (v : Value) (w : World) (hg : Glob w) (hv : errV k = v) (h : k = j) :
    Calls Tryd.prog 7 #[v, .int .i64 j] w fun e w' => e = .returned (.bool true) ∧ Below w.heap.size w w' := by
  subst hv h
  exact (error_any k k w hg).mono fun e w' ⟨a, b⟩ => ⟨by rw [a, beq_self_eq_true], b⟩

end Go.Proofs.YtbbgabdiikdjpaaDoor

namespace Go.Proofs.YtbbgabdiikdjpaaDoor
open Go.RowKit Go.Deep

set_option maxHeartbeats 1000000 in
set_option maxRecDepth 100000 in
theorem rfault_any {y z : Option Addr} {q cz : Nat} (k : Int) (N : List ByteArray) (ty cl ttl : Int) (D : List Int) (w : World) (hN : Strs w y q N) (hD : D.length ≤ 200000000000000) (hk : recE N ty cl ttl D = k) :
    Calls Tryd.prog 42 #[.agg #[.slice y N.length q, .int .i64 ty, .int .i64 cl, .int .i64 ttl, .slice z D.length cz]] w fun e w' => e = .returned (.int .i64 k) ∧ Below w.heap.size w w' := by
  obtain ⟨r, hr⟩ : ∃ r, Nm.checkN (N.map Nm.bs) = r := ⟨_, rfl⟩
  have HK := hid hk
  have B0 := (Below.refl _ w).alloc (Nat.le_refl _) (.cells #[.slice y N.length q, .int .i64 ty, .int .i64 cl, .int .i64 ttl, .slice z D.length cz] 67)
  have K0 := Bl.new 67 w #[.slice y N.length q, .int .i64 ty, .int .i64 cl, .int .i64 ttl, .slice z D.length cz]
  have S0 := hid (hN.below B0)
  have HR := hid hr
  have HB0 := hid B0
  have HK0 := hid K0
  clear hk hN hr B0 K0
  go_enter Tryd.func42, Tryd.ntmps42
  go_wp2_with fail
  refine (fault_at r N _ S0.out rfl HR.out).mono ?_
  rintro e w1 ⟨rfl, rfl⟩
  have c1 := HK0.out.cell (i := 1) rfl
  have c2 := HK0.out.cell (i := 2) rfl
  have c3 := HK0.out.cell (i := 3) rfl
  have c4 := HK0.out.cell (i := 4) rfl
  by_cases r0 : r = 0
  case neg =>
    have HE : Hid (r = k) := hid (by rw [← HK.out]; unfold recE; rw [HR.out, if_pos r0])
    have r0' : (r != 0) = true := bne_iff_ne.2 r0
    clear r0
    go_wp2_with fail
    go_ret
    rw [← HE.out]
    exact ⟨rfl, HB0.out⟩
  subst r0
  by_cases a1 : 0 ≤ ty ∧ ty ≤ 65535
  case neg =>
    have HE : Hid (6 = k) := hid (by rw [← HK.out]; unfold recE; rw [HR.out, if_neg (by simp), if_pos (fun q => a1 q.1)])
    have HA := hid a1
    clear a1
    go_wp2_with fail
    refine (rword_any false ty _ (decide_eq_false HA.out)).mono ?_
    rintro e w2 ⟨rfl, rfl⟩
    go_wp2_with fail
    go_ret
    rw [← HE.out]
    exact ⟨rfl, HB0.out⟩
  by_cases a2 : 0 ≤ cl ∧ cl ≤ 65535
  case neg =>
    have HE : Hid (6 = k) := hid (by rw [← HK.out]; unfold recE; rw [HR.out, if_neg (by simp), if_pos (fun q => a2 q.2.1)])
    have HA := hid a1
    have HA2 := hid a2
    clear a1 a2
    go_wp2_with fail
    refine (rword_any true ty _ (decide_eq_true HA.out)).mono ?_
    rintro e w2 ⟨rfl, rfl⟩
    go_wp2_with fail
    refine (rword_any false cl _ (decide_eq_false HA2.out)).mono ?_
    rintro e w2 ⟨rfl, rfl⟩
    go_wp2_with fail
    go_ret
    rw [← HE.out]
    exact ⟨rfl, HB0.out⟩
  have HA := hid a1
  have HA2 := hid a2
  have HKE : Hid (¬ (0 ≤ ttl ∧ ttl ≤ 4294967295) → 6 = k) := hid (fun q => by rw [← HK.out]; unfold recE; rw [HR.out, if_neg (by simp), if_pos (fun q2 => q q2.2.2)])
  have HKD : Hid ((0 ≤ ttl ∧ ttl ≤ 4294967295) → 65535 < D.length → 7 = k) := hid (fun q q2 => by rw [← HK.out]; unfold recE; rw [HR.out, if_neg (by simp), if_neg (by simp only [Decidable.not_not]; exact ⟨HA.out, HA2.out, q⟩), if_pos q2])
  have HKO : Hid ((0 ≤ ttl ∧ ttl ≤ 4294967295) → ¬ 65535 < D.length → 0 = k) := hid (fun q q2 => by rw [← HK.out]; unfold recE; rw [HR.out, if_neg (by simp), if_neg (by simp only [Decidable.not_not]; exact ⟨HA.out, HA2.out, q⟩), if_neg q2])
  clear a1 a2
  go_wp2_with fail
  refine (rword_any true ty _ (decide_eq_true HA.out)).mono ?_
  rintro e w2 ⟨rfl, rfl⟩
  go_wp2_with fail
  refine (rword_any true cl _ (decide_eq_true HA2.out)).mono ?_
  rintro e w2 ⟨rfl, rfl⟩
  by_cases b1 : ttl < 0
  · go_wp2_with fail
    go_ret
    rw [← HKE.out (by omega)]
    exact ⟨rfl, HB0.out⟩
  by_cases b2 : 4294967295 < ttl
  · go_wp2_with fail
    go_ret
    rw [← HKE.out (by omega)]
    exact ⟨rfl, HB0.out⟩
  by_cases b3 : (65535 : Int) < (D.length : Int)
  · go_wp2_with fail
    go_ret
    rw [← HKD.out (by omega) (by omega)]
    exact ⟨rfl, HB0.out⟩
  · go_wp2_with fail
    go_ret
    rw [← HKO.out (by omega) (by omega)]
    exact ⟨rfl, HB0.out⟩

/-- A row of the call's own and a record's block are two. -/
theorem own_ne_rec {w : World} {B g : Nat} {v : Value} {xs : List Int} {C : Array Value} (h : Rowb w B v xs) (k : Bl 67 w g C) : v.ownBlock = none ∨ v.ownBlock ≠ some g := rowb_ne h k (by decide)

theorem Bl.kept {t : TypeId} {w w' : World} {g : Nat} {C : Array Value} {r : Option Nat} (h : Bl t w g C) (k : w.grownBy w' r) (hn : r = none ∨ r ≠ some g) : Bl t w' g C := by
  have hl := h.lt
  unfold Bl at h ⊢
  have hne : some g ≠ r := by
    rcases hn with q | q
    · rw [q]; simp
    · exact fun e => q e.symm
  rw [k.block g hl hne]
  exact h

def WithPost (X : List Int) (T : List Int) (w : World) (e : Ending) (w' : World) : Prop :=
  ∃ v u, e = .returned (.tuple #[v, u]) ∧ Rowb w' w.heap.size v X ∧ Rowi w' w.heap.size u T ∧ Below w.heap.size w w'

set_option maxHeartbeats 2000000 in
set_option maxRecDepth 100000 in
theorem with_any {x zt y z : Option Addr} {c d q cz l lz : Nat} (ms : List Int) (tab : List (Int × List ByteArray)) (N : List ByteArray) (ty cl ttl : Int) (D : List Int) (w : World) (h : Bys w x c ms) (hz : Ints w zt d (tab.map (·.1))) (hN : Strs w y q N) (hD : Bys w z cz D) (ht : TabOk ms tab) (hl : ms.length = l) (hlz : tab.length = lz) (hk : recE N ty cl ttl D = 0) (hml : ms.length ≤ 80000000000000) (htl : tab.length ≤ 9000000000000) :
    Calls Tryd.prog 43 #[.slice x l c, .slice zt lz d, .agg #[.slice y N.length q, .int .i64 ty, .int .i64 cl, .int .i64 ttl, .slice z D.length cz]] w (WithPost (ms ++ packB tab N ++ fieldsN ty cl ttl D) ((tab ++ newT ms.length N (keptN tab N)).map (·.1)) w) := by
  obtain ⟨k0, ⟨t0, t1⟩, ⟨t2, t3⟩, ⟨t4, t5⟩, hd⟩ := recE_zero hk
  have hpl := (packB_len tab N).2
  have hck := (check_zero k0).2
  have BA := (Below.refl _ w).alloc (Nat.le_refl _) (.cells #[.slice y N.length q, .int .i64 ty, .int .i64 cl, .int .i64 ttl, .slice z D.length cz] 67)
  have KA := hid (Bl.new 67 w #[.slice y N.length q, .int .i64 ty, .int .i64 cl, .int .i64 ttl, .slice z D.length cz])
  have HA := hid (h.below BA)
  have ZA := hid (hz.below BA)
  have NA := hid (hN.below BA)
  have DA := hid hD
  have HT := hid ht
  have HK := hid k0
  have HBA := hid BA
  clear h hz hN hD ht k0 BA hk
  go_enter Tryd.func43, Tryd.ntmps43
  go_wp2_with fail
  refine (packed_any ms tab N _ HA.out ZA.out NA.out HT.out hl hlz rfl HK.out (by omega) htl).mono ?_
  rintro e w1 ⟨v1, u1, rfl, r1, i1, b1⟩
  have hsz := HBA.out.size
  have R0' : Rowb w1 w.heap.size v1 (ms ++ packB tab N) := owns_base r1 hsz
  obtain ⟨TT, hTT⟩ : ∃ T, (tab ++ newT ms.length N (keptN tab N)).map (·.1) = T := ⟨_, rfl⟩
  have I0 : Hid (Rowi w1 w.heap.size u1 TT) := hid (by rw [← hTT]; exact owns_base i1 hsz)
  have HTT := hid hTT
  clear hTT
  have B0 := hid (grown_on HBA.out b1)
  have K0 := hid (KA.out.below b1)
  obtain ⟨P, hP⟩ : ∃ P, (packB tab N).length = P := ⟨_, rfl⟩
  have hX0 : (ms ++ packB tab N).length = ms.length + P + 0 := by rw [List.length_append]; omega
  rw [hP] at hpl
  obtain ⟨X0, hx0⟩ : ∃ X, ms ++ packB tab N = X := ⟨_, rfl⟩
  rw [hx0] at R0' hX0
  have E0 := hid hx0
  have R0 := hid R0'
  have DA2 := hid (DA.out.below B0.out)
  clear r1 i1 b1 R0' hx0 KA HA ZA NA HT HK HBA hsz hP
  have c0 := K0.out.cell (i := 1) rfl
  go_wp2_with fail
  refine (rpair_any (ty) _ (by omega) (by omega)).mono ?_
  rintro e wa ⟨rfl, ya, hga, ba⟩
  have Y0 := hid ya
  have Ra0 := hid (owns_stay R0.out ba)
  have Ri0 := hid (owns_stay I0.out ba)
  have Ba0 := hid (grown_on B0.out ba)
  have Ka0 := hid (K0.out.below ba)
  have hS0 := Ba0.out.size
  clear ya hga ba R0 I0 B0 K0 c0
  go_wp2_with (at_builtin; refine wpList_append_bys (ys := twoN (ty)) rfl _ _ rfl rfl (by rw [two_len]; rfl) (show Rowb _ w.heap.size _ X0 from Ra0.out) Y0.out (by rw [two_len]; omega) hS0 ?_)
  intro vb wb rb gb
  have R1' : Rowb wb w.heap.size vb (X0 ++ twoN (ty)) := rb
  have I1 := hid (World.ownsRow.kept Ri0.out gb (apart_of (by decide) Ri0.out Ra0.out))
  have B1 := hid (grown_below (show Rowb _ w.heap.size _ X0 from Ra0.out) Ba0.out hS0 gb)
  have K1 : Hid (Bl 67 wb w.heap.size #[.slice y N.length q, .int .i64 ty, .int .i64 cl, .int .i64 ttl, .slice z D.length cz]) := hid (Ka0.out.kept gb (own_ne_rec Ra0.out Ka0.out))
  have hX1 : (X0 ++ twoN (ty)).length = ms.length + P + 2 := by rw [List.length_append, two_len]; omega
  have HX1 : Hid (X0 ++ twoN (ty) = X0 ++ twoN (ty)) := hid rfl
  obtain ⟨X1, hx1⟩ : ∃ X, X0 ++ twoN (ty) = X := ⟨_, rfl⟩
  rw [hx1] at R1' hX1
  have E1 := hid hx1
  have R1 := hid R1'
  clear rb gb Ra0 Ri0 Ba0 Ka0 Y0 hS0 hx1 R1' HX1
  have c1 := K1.out.cell (i := 2) rfl
  go_wp2_with fail
  refine (rpair_any (cl) _ (by omega) (by omega)).mono ?_
  rintro e wa ⟨rfl, ya, hga, ba⟩
  have Y1 := hid ya
  have Ra1 := hid (owns_stay R1.out ba)
  have Ri1 := hid (owns_stay I1.out ba)
  have Ba1 := hid (grown_on B1.out ba)
  have Ka1 := hid (K1.out.below ba)
  have hS1 := Ba1.out.size
  clear ya hga ba R1 I1 B1 K1 c1
  go_wp2_with (at_builtin; refine wpList_append_bys (ys := twoN (cl)) rfl _ _ rfl rfl (by rw [two_len]; rfl) (show Rowb _ w.heap.size _ X1 from Ra1.out) Y1.out (by rw [two_len]; omega) hS1 ?_)
  intro vb wb rb gb
  have R2' : Rowb wb w.heap.size vb (X1 ++ twoN (cl)) := rb
  have I2 := hid (World.ownsRow.kept Ri1.out gb (apart_of (by decide) Ri1.out Ra1.out))
  have B2 := hid (grown_below (show Rowb _ w.heap.size _ X1 from Ra1.out) Ba1.out hS1 gb)
  have K2 : Hid (Bl 67 wb w.heap.size #[.slice y N.length q, .int .i64 ty, .int .i64 cl, .int .i64 ttl, .slice z D.length cz]) := hid (Ka1.out.kept gb (own_ne_rec Ra1.out Ka1.out))
  have hX2 : (X1 ++ twoN (cl)).length = ms.length + P + 4 := by rw [List.length_append, two_len]; omega
  have HX2 : Hid (X1 ++ twoN (cl) = X1 ++ twoN (cl)) := hid rfl
  obtain ⟨X2, hx2⟩ : ∃ X, X1 ++ twoN (cl) = X := ⟨_, rfl⟩
  rw [hx2] at R2' hX2
  have E2 := hid hx2
  have R2 := hid R2'
  clear rb gb Ra1 Ri1 Ba1 Ka1 Y1 hS1 hx2 R2' HX2
  have c2 := K2.out.cell (i := 3) rfl
  go_wp2_with fail
  refine (rpair_any (ttl / 65536) _ (by omega) (by omega)).mono ?_
  rintro e wa ⟨rfl, ya, hga, ba⟩
  have Y2 := hid ya
  have Ra2 := hid (owns_stay R2.out ba)
  have Ri2 := hid (owns_stay I2.out ba)
  have Ba2 := hid (grown_on B2.out ba)
  have Ka2 := hid (K2.out.below ba)
  have hS2 := Ba2.out.size
  clear ya hga ba R2 I2 B2 K2 c2
  go_wp2_with (at_builtin; refine wpList_append_bys (ys := twoN (ttl / 65536)) rfl _ _ rfl rfl (by rw [two_len]; rfl) (show Rowb _ w.heap.size _ X2 from Ra2.out) Y2.out (by rw [two_len]; omega) hS2 ?_)
  intro vb wb rb gb
  have R3' : Rowb wb w.heap.size vb (X2 ++ twoN (ttl / 65536)) := rb
  have I3 := hid (World.ownsRow.kept Ri2.out gb (apart_of (by decide) Ri2.out Ra2.out))
  have B3 := hid (grown_below (show Rowb _ w.heap.size _ X2 from Ra2.out) Ba2.out hS2 gb)
  have K3 : Hid (Bl 67 wb w.heap.size #[.slice y N.length q, .int .i64 ty, .int .i64 cl, .int .i64 ttl, .slice z D.length cz]) := hid (Ka2.out.kept gb (own_ne_rec Ra2.out Ka2.out))
  have hX3 : (X2 ++ twoN (ttl / 65536)).length = ms.length + P + 6 := by rw [List.length_append, two_len]; omega
  have HX3 : Hid (X2 ++ twoN (ttl / 65536) = X2 ++ twoN (ttl / 65536)) := hid rfl
  obtain ⟨X3, hx3⟩ : ∃ X, X2 ++ twoN (ttl / 65536) = X := ⟨_, rfl⟩
  rw [hx3] at R3' hX3
  have E3 := hid hx3
  have R3 := hid R3'
  clear rb gb Ra2 Ri2 Ba2 Ka2 Y2 hS2 hx3 R3' HX3
  have c3 := K3.out.cell (i := 3) rfl
  go_wp2_with fail
  refine (rpair_any (ttl % 65536) _ (by omega) (by omega)).mono ?_
  rintro e wa ⟨rfl, ya, hga, ba⟩
  have Y3 := hid ya
  have Ra3 := hid (owns_stay R3.out ba)
  have Ri3 := hid (owns_stay I3.out ba)
  have Ba3 := hid (grown_on B3.out ba)
  have Ka3 := hid (K3.out.below ba)
  have hS3 := Ba3.out.size
  clear ya hga ba R3 I3 B3 K3 c3
  go_wp2_with (at_builtin; refine wpList_append_bys (ys := twoN (ttl % 65536)) rfl _ _ rfl rfl (by rw [two_len]; rfl) (show Rowb _ w.heap.size _ X3 from Ra3.out) Y3.out (by rw [two_len]; omega) hS3 ?_)
  intro vb wb rb gb
  have R4' : Rowb wb w.heap.size vb (X3 ++ twoN (ttl % 65536)) := rb
  have I4 := hid (World.ownsRow.kept Ri3.out gb (apart_of (by decide) Ri3.out Ra3.out))
  have B4 := hid (grown_below (show Rowb _ w.heap.size _ X3 from Ra3.out) Ba3.out hS3 gb)
  have K4 : Hid (Bl 67 wb w.heap.size #[.slice y N.length q, .int .i64 ty, .int .i64 cl, .int .i64 ttl, .slice z D.length cz]) := hid (Ka3.out.kept gb (own_ne_rec Ra3.out Ka3.out))
  have hX4 : (X3 ++ twoN (ttl % 65536)).length = ms.length + P + 8 := by rw [List.length_append, two_len]; omega
  have HX4 : Hid (X3 ++ twoN (ttl % 65536) = X3 ++ twoN (ttl % 65536)) := hid rfl
  obtain ⟨X4, hx4⟩ : ∃ X, X3 ++ twoN (ttl % 65536) = X := ⟨_, rfl⟩
  rw [hx4] at R4' hX4
  have E4 := hid hx4
  have R4 := hid R4'
  clear rb gb Ra3 Ri3 Ba3 Ka3 Y3 hS3 hx4 R4' HX4
  have c4 := K4.out.cell (i := 4) rfl
  go_wp2_with fail
  refine (rpair_any ((D.length : Int)) _ (by omega) (by omega)).mono ?_
  rintro e wa ⟨rfl, ya, hga, ba⟩
  have Y4 := hid ya
  have Ra4 := hid (owns_stay R4.out ba)
  have Ri4 := hid (owns_stay I4.out ba)
  have Ba4 := hid (grown_on B4.out ba)
  have Ka4 := hid (K4.out.below ba)
  have hS4 := Ba4.out.size
  clear ya hga ba R4 I4 B4 K4 c4
  go_wp2_with (at_builtin; refine wpList_append_bys (ys := twoN ((D.length : Int))) rfl _ _ rfl rfl (by rw [two_len]; rfl) (show Rowb _ w.heap.size _ X4 from Ra4.out) Y4.out (by rw [two_len]; omega) hS4 ?_)
  intro vb wb rb gb
  have R5' : Rowb wb w.heap.size vb (X4 ++ twoN ((D.length : Int))) := rb
  have I5 := hid (World.ownsRow.kept Ri4.out gb (apart_of (by decide) Ri4.out Ra4.out))
  have B5 := hid (grown_below (show Rowb _ w.heap.size _ X4 from Ra4.out) Ba4.out hS4 gb)
  have K5 : Hid (Bl 67 wb w.heap.size #[.slice y N.length q, .int .i64 ty, .int .i64 cl, .int .i64 ttl, .slice z D.length cz]) := hid (Ka4.out.kept gb (own_ne_rec Ra4.out Ka4.out))
  have hX5 : (X4 ++ twoN ((D.length : Int))).length = ms.length + P + 10 := by rw [List.length_append, two_len]; omega
  have HX5 : Hid (X4 ++ twoN ((D.length : Int)) = X4 ++ twoN ((D.length : Int))) := hid rfl
  obtain ⟨X5, hx5⟩ : ∃ X, X4 ++ twoN ((D.length : Int)) = X := ⟨_, rfl⟩
  rw [hx5] at R5' hX5
  have E5 := hid hx5
  have R5 := hid R5'
  clear rb gb Ra4 Ri4 Ba4 Ka4 Y4 hS4 hx5 R5' HX5
  have c5 := K5.out.cell (i := 4) rfl
  have hS5 := B5.out.size
  go_wp2_with (at_builtin; refine wpList_append_bys (ys := D) rfl _ _ rfl rfl rfl (show Rowb _ w.heap.size _ X5 from R5.out) (DA.out.below B5.out) (by omega) hS5 ?_)
  intro vb wb rb gb
  have R6 : Hid (Rowb wb w.heap.size vb (ms ++ packB tab N ++ fieldsN ty cl ttl D)) := hid (by
    have e : ms ++ packB tab N ++ fieldsN ty cl ttl D = X5 ++ D := by
      have e2 : twoN (ttl % 65536) = twoN ttl := by
        have q1 : ttl % 65536 / 256 % 256 = ttl / 256 % 256 := by omega
        have q2 : ttl % 65536 % 256 = ttl % 256 := by omega
        simp only [twoN, q1, q2]
      rw [← E5.out, ← E4.out, ← E3.out, ← E2.out, ← E1.out, ← E0.out, e2]
      unfold fieldsN
      simp only [List.append_assoc]
    rw [e]; exact rb)
  have I6 := hid (World.ownsRow.kept I5.out gb (apart_of (by decide) I5.out R5.out))
  have B6 := hid (grown_below (show Rowb _ w.heap.size _ X5 from R5.out) B5.out hS5 gb)
  clear rb gb R5 I5 B5 K5 c5 hS5
  go_wp2_with fail
  go_ret2
  exact ⟨vb, u1, rfl, R6.out, by rw [HTT.out]; exact I6.out, B6.out⟩

end Go.Proofs.YtbbgabdiikdjpaaDoor

namespace Go.Proofs.YtbbgabdiikdjpaaDoor
open Go.RowKit Go.Deep

def MbPost (h : Hd) (qs : List Qn) (r1 r2 r3 : List Rn) (w : World) (e : Ending) (w' : World) : Prop :=
  (msgE h qs r1 r2 r3 = 0 ∧ ∃ v, e = .returned (.tuple #[v, .int .i64 0]) ∧ Rowb w' w.heap.size v (endS h qs r1 r2 r3).1 ∧ Below w.heap.size w w') ∨
    (¬ msgE h qs r1 r2 r3 = 0 ∧ e = .returned (.tuple #[.slice none 0 0, .int .i64 (msgE h qs r1 r2 r3)]) ∧ Below w.heap.size w w')

theorem mbPost_bad {h : Hd} {qs : List Qn} {r1 r2 r3 : List Rn} {w w' : World} {k : Int} (hk : msgE h qs r1 r2 r3 = k) (h0 : ¬ k = 0) (hb : Below w.heap.size w w') : MbPost h qs r1 r2 r3 w (.returned (.tuple #[.slice none 0 0, .int .i64 k])) w' := by
  subst hk
  exact Or.inr ⟨h0, rfl, hb⟩

/-- Behind some questions. -/
def BRelQ (w : World) (C : Array Value) (qs : List Qn) (s0 : List Int × List (Int × List ByteArray)) (vo vs vi : Value) (wr : World) : Prop :=
  ∃ i : Nat, i ≤ qs.length ∧ vi = .int .i64 (i : Int) ∧ (∀ q ∈ qs.take i, qE q = 0) ∧ Rowb wr w.heap.size vo ((qs.take i).foldl stepQ s0).1 ∧ Rowi wr w.heap.size vs (((qs.take i).foldl stepQ s0).2.map (·.1)) ∧ Below w.heap.size w wr ∧ Bl 28 wr w.heap.size C

/-- Behind some records. -/
def BRelR (w : World) (rs : List Rn) (s0 : List Int × List (Int × List ByteArray)) (x : Option Addr) (c : Nat) (vo vs vi : Value) (wr : World) : Prop :=
  ∃ i : Nat, i ≤ rs.length ∧ vi = .int .i64 (i : Int) ∧ (∀ r ∈ rs.take i, rE r = 0) ∧ Rowb wr w.heap.size vo ((rs.take i).foldl stepR s0).1 ∧ Rowi wr w.heap.size vs (((rs.take i).foldl stepR s0).2.map (·.1)) ∧ Below w.heap.size w wr ∧ Rs wr 0 x c rs

set_option maxHeartbeats 4000000 in
set_option maxRecDepth 100000 in
theorem mbytes_any {xq x1 x2 x3 : Option Addr} {cq c1 c2 c3 bq : Nat} (h : Hd) (qs : List Qn) (r1 r2 r3 : List Rn) (w : World) (hq : Qs w bq xq cq qs) (hr1 : Rs w bq x1 c1 r1) (hr2 : Rs w bq x2 c2 r2) (hr3 : Rs w bq x3 c3 r3) :
    Calls Tryd.prog 9 #[.agg #[.int .i64 h.id, .bool h.an, .int .i64 h.op, .bool h.aa, .bool h.tc, .bool h.rd, .bool h.ra, .bool h.z, .bool h.ad, .bool h.cd, .int .i64 h.code, .slice xq qs.length cq, .slice x1 r1.length c1, .slice x2 r2.length c2, .slice x3 r3.length c3]] w (MbPost h qs r1 r2 r3 w) := by
  have Q := hid hq
  have R1 := hid hr1
  have R2 := hid hr2
  have R3 := hid hr3
  have hql : qs.length ≤ 4000000000000 := hq.2.1
  have hl1 : r1.length ≤ 4000000000000 := hr1.2.1
  have hl2 : r2.length ≤ 4000000000000 := hr2.2.1
  have hl3 : r3.length ≤ 4000000000000 := hr3.2.1
  have hD : ∀ r ∈ r1 ++ r2 ++ r3, ∀ b ∈ r.D, 0 ≤ b ∧ b ≤ 255 := by
    intro r hr
    simp only [List.mem_append] at hr
    rcases hr with (hr | hr) | hr
    · exact hr1.data r hr
    · exact hr2.data r hr
    · exact hr3.data r hr
  have HD := hid hD
  have HB0 := hid ((Below.refl _ w).alloc (Nat.le_refl _) (.cells #[.int .i64 h.id, .bool h.an, .int .i64 h.op, .bool h.aa, .bool h.tc, .bool h.rd, .bool h.ra, .bool h.z, .bool h.ad, .bool h.cd, .int .i64 h.code, .slice xq qs.length cq, .slice x1 r1.length c1, .slice x2 r2.length c2, .slice x3 r3.length c3] 28))
  have HK0 := hid (Bl.new 28 w #[.int .i64 h.id, .bool h.an, .int .i64 h.op, .bool h.aa, .bool h.tc, .bool h.rd, .bool h.ra, .bool h.z, .bool h.ad, .bool h.cd, .int .i64 h.code, .slice xq qs.length cq, .slice x1 r1.length c1, .slice x2 r2.length c2, .slice x3 r3.length c3])
  clear hq hr1 hr2 hr3 hD
  go_enter Tryd.func9, Tryd.ntmps9
  go_wp2_with fail
  by_cases hh : HdOk h
  case neg =>
    have HE : Hid (msgE h qs r1 r2 r3 = 6) := hid (by unfold msgE; rw [hdE_no hh, if_pos (by decide)])
    have HH := hid hh
    clear hh
    refine (hfault_bad h.id h.op h.code h.an h.aa h.tc h.rd h.ra h.z h.ad h.cd _ HH.out).mono ?_
    rintro e w1 ⟨rfl, b1⟩
    have B1 := hid (grown_on HB0.out b1)
    clear b1
    go_wp2_with fail
    go_ret2
    exact mbPost_bad HE.out (by decide) B1.out
  obtain ⟨⟨i0, i1⟩, ⟨o0, o1⟩, ⟨d0, d1⟩⟩ := id hh
  have HH := hid hh
  clear hh
  refine (hfault_good h.id h.op h.code h.an h.aa h.tc h.rd h.ra h.z h.ad h.cd _ i0 i1 o0 o1 d0 d1).mono ?_
  rintro e w1 ⟨rfl, b1⟩
  have B1 := hid (grown_on HB0.out b1)
  have K1 := hid (HK0.out.below b1)
  clear b1 HB0 HK0
  have e0 := K1.out.cell (i := 0) rfl
  have e1 := K1.out.cell (i := 1) rfl
  have e2 := K1.out.cell (i := 2) rfl
  have e3 := K1.out.cell (i := 3) rfl
  have e4 := K1.out.cell (i := 4) rfl
  have e5 := K1.out.cell (i := 5) rfl
  have e6 := K1.out.cell (i := 6) rfl
  have e7 := K1.out.cell (i := 7) rfl
  have e8 := K1.out.cell (i := 8) rfl
  have e9 := K1.out.cell (i := 9) rfl
  have e10 := K1.out.cell (i := 10) rfl
  have e11 := K1.out.cell (i := 11) rfl
  have e12 := K1.out.cell (i := 12) rfl
  have e13 := K1.out.cell (i := 13) rfl
  have e14 := K1.out.cell (i := 14) rfl
  have HF7 : Hid ((65535 < qs.length ∨ 65535 < r1.length ∨ 65535 < r2.length ∨ 65535 < r3.length) → msgE h qs r1 r2 r3 = 7) := hid (fun q => by unfold msgE; rw [hdE_ok HH.out, if_neg (by simp), if_pos q])
  by_cases l0 : (65535 : Int) < (qs.length : Int)
  · go_wp2_with fail
    go_ret2
    exact mbPost_bad (HF7.out (by omega)) (by decide) B1.out
  by_cases l1 : (65535 : Int) < (r1.length : Int)
  · go_wp2_with fail
    go_ret2
    exact mbPost_bad (HF7.out (by omega)) (by decide) B1.out
  by_cases l2 : (65535 : Int) < (r2.length : Int)
  · go_wp2_with fail
    go_ret2
    exact mbPost_bad (HF7.out (by omega)) (by decide) B1.out
  by_cases l3 : (65535 : Int) < (r3.length : Int)
  · go_wp2_with fail
    go_ret2
    exact mbPost_bad (HF7.out (by omega)) (by decide) B1.out
  clear HF7
  go_wp2_with fail
  refine (hbytes_own h.id h.op h.code h.an h.aa h.tc h.rd h.ra h.z h.ad h.cd _ i0 i1 o0 o1 d0 d1).mono ?_
  rintro e w2 ⟨g2, rfl, _, b2, _, r2'⟩
  have R0' : Rowb w2 w.heap.size (.slice (some ⟨g2, 0, none⟩) 4 4) (hdB h) := owns_base r2' B1.out.size
  have B0 := hid (grown_on B1.out b2)
  have K0 := hid (K1.out.below b2)
  obtain ⟨X0, hx0⟩ : ∃ X, hdB h = X := ⟨_, rfl⟩
  have hX0 : X0.length = 4 := by rw [← hx0]; rfl
  rw [hx0] at R0'
  have E0 := hid hx0
  have R0 := hid R0'
  clear b2 r2' R0' B1 K1 hx0 e0 e1 e2 e3 e4 e5 e6 e7 e8 e9 e10 e11 e12 e13 e14
  have c0 := K0.out.cell (i := 11) rfl
  go_wp2_with fail
  refine (rpair_any ((qs.length : Int)) _ (by omega) (by omega)).mono ?_
  rintro e wa ⟨rfl, ya, hga, ba⟩
  have Y0 := hid ya
  have Ra0 := hid (owns_stay R0.out ba)
  have Ba0 := hid (grown_on B0.out ba)
  have Ka0 := hid (K0.out.below ba)
  have hS0 := Ba0.out.size
  clear ya hga ba R0 B0 K0 c0
  go_wp2_with (at_builtin; refine wpList_append_bys (ys := twoN ((qs.length : Int))) rfl _ _ rfl rfl rfl (show Rowb _ w.heap.size _ X0 from Ra0.out) Y0.out (by rw [two_len]; omega) hS0 ?_)
  intro vb wb rb gb
  have R1' : Rowb wb w.heap.size vb (X0 ++ twoN ((qs.length : Int))) := rb
  have B1 := hid (grown_below (show Rowb _ w.heap.size _ X0 from Ra0.out) Ba0.out hS0 gb)
  have K1 := hid (Ka0.out.kept gb (rowb_ne Ra0.out Ka0.out (by decide)))
  have hX1 : (X0 ++ twoN ((qs.length : Int))).length = X0.length + 2 := by rw [List.length_append, two_len]
  obtain ⟨X1, hx1⟩ : ∃ X, X0 ++ twoN ((qs.length : Int)) = X := ⟨_, rfl⟩
  rw [hx1] at R1' hX1
  have E1 := hid hx1
  have R1 := hid R1'
  clear rb gb Ra0 Ba0 Ka0 Y0 hS0 hx1 R1'
  have c1 := K1.out.cell (i := 12) rfl
  go_wp2_with fail
  refine (rpair_any ((r1.length : Int)) _ (by omega) (by omega)).mono ?_
  rintro e wa ⟨rfl, ya, hga, ba⟩
  have Y1 := hid ya
  have Ra1 := hid (owns_stay R1.out ba)
  have Ba1 := hid (grown_on B1.out ba)
  have Ka1 := hid (K1.out.below ba)
  have hS1 := Ba1.out.size
  clear ya hga ba R1 B1 K1 c1
  go_wp2_with (at_builtin; refine wpList_append_bys (ys := twoN ((r1.length : Int))) rfl _ _ rfl rfl rfl (show Rowb _ w.heap.size _ X1 from Ra1.out) Y1.out (by rw [two_len]; omega) hS1 ?_)
  intro vb wb rb gb
  have R2' : Rowb wb w.heap.size vb (X1 ++ twoN ((r1.length : Int))) := rb
  have B2 := hid (grown_below (show Rowb _ w.heap.size _ X1 from Ra1.out) Ba1.out hS1 gb)
  have K2 := hid (Ka1.out.kept gb (rowb_ne Ra1.out Ka1.out (by decide)))
  have hX2 : (X1 ++ twoN ((r1.length : Int))).length = X1.length + 2 := by rw [List.length_append, two_len]
  obtain ⟨X2, hx2⟩ : ∃ X, X1 ++ twoN ((r1.length : Int)) = X := ⟨_, rfl⟩
  rw [hx2] at R2' hX2
  have E2 := hid hx2
  have R2 := hid R2'
  clear rb gb Ra1 Ba1 Ka1 Y1 hS1 hx2 R2'
  have c2 := K2.out.cell (i := 13) rfl
  go_wp2_with fail
  refine (rpair_any ((r2.length : Int)) _ (by omega) (by omega)).mono ?_
  rintro e wa ⟨rfl, ya, hga, ba⟩
  have Y2 := hid ya
  have Ra2 := hid (owns_stay R2.out ba)
  have Ba2 := hid (grown_on B2.out ba)
  have Ka2 := hid (K2.out.below ba)
  have hS2 := Ba2.out.size
  clear ya hga ba R2 B2 K2 c2
  go_wp2_with (at_builtin; refine wpList_append_bys (ys := twoN ((r2.length : Int))) rfl _ _ rfl rfl rfl (show Rowb _ w.heap.size _ X2 from Ra2.out) Y2.out (by rw [two_len]; omega) hS2 ?_)
  intro vb wb rb gb
  have R3' : Rowb wb w.heap.size vb (X2 ++ twoN ((r2.length : Int))) := rb
  have B3 := hid (grown_below (show Rowb _ w.heap.size _ X2 from Ra2.out) Ba2.out hS2 gb)
  have K3 := hid (Ka2.out.kept gb (rowb_ne Ra2.out Ka2.out (by decide)))
  have hX3 : (X2 ++ twoN ((r2.length : Int))).length = X2.length + 2 := by rw [List.length_append, two_len]
  obtain ⟨X3, hx3⟩ : ∃ X, X2 ++ twoN ((r2.length : Int)) = X := ⟨_, rfl⟩
  rw [hx3] at R3' hX3
  have E3 := hid hx3
  have R3 := hid R3'
  clear rb gb Ra2 Ba2 Ka2 Y2 hS2 hx3 R3'
  have c3 := K3.out.cell (i := 14) rfl
  go_wp2_with fail
  refine (rpair_any ((r3.length : Int)) _ (by omega) (by omega)).mono ?_
  rintro e wa ⟨rfl, ya, hga, ba⟩
  have Y3 := hid ya
  have Ra3 := hid (owns_stay R3.out ba)
  have Ba3 := hid (grown_on B3.out ba)
  have Ka3 := hid (K3.out.below ba)
  have hS3 := Ba3.out.size
  clear ya hga ba R3 B3 K3 c3
  go_wp2_with (at_builtin; refine wpList_append_bys (ys := twoN ((r3.length : Int))) rfl _ _ rfl rfl rfl (show Rowb _ w.heap.size _ X3 from Ra3.out) Y3.out (by rw [two_len]; omega) hS3 ?_)
  intro vb wb rb gb
  have R4' : Rowb wb w.heap.size vb (X3 ++ twoN ((r3.length : Int))) := rb
  have B4 := hid (grown_below (show Rowb _ w.heap.size _ X3 from Ra3.out) Ba3.out hS3 gb)
  have K4 := hid (Ka3.out.kept gb (rowb_ne Ra3.out Ka3.out (by decide)))
  have hX4 : (X3 ++ twoN ((r3.length : Int))).length = X3.length + 2 := by rw [List.length_append, two_len]
  obtain ⟨X4, hx4⟩ : ∃ X, X3 ++ twoN ((r3.length : Int)) = X := ⟨_, rfl⟩
  rw [hx4] at R4' hX4
  have E4 := hid hx4
  have R4 := hid R4'
  clear rb gb Ra3 Ba3 Ka3 Y3 hS3 hx4 R4'
  obtain ⟨s0, hs0⟩ : ∃ s, (aheadN h qs.length r1.length r2.length r3.length, ([] : List (Int × List ByteArray))) = s := ⟨_, rfl⟩
  have g0 : Good s0 := by rw [← hs0]; exact good_start HH.out _ _ _ _
  have x4 : s0.1 = X4 := by rw [← hs0, ← E4.out, ← E3.out, ← E2.out, ← E1.out, ← E0.out]; rfl
  have t4 : s0.2 = [] := by rw [← hs0]
  have G0 := hid g0
  have XX := hid x4
  have TT := hid t4
  have HS0 := hid hs0
  have ls0 : s0.1.length = 12 := by rw [x4]; omega
  have LS0 := hid ls0
  clear g0 x4 t4 hs0 ls0
  go_wp2_with fail
  go_loopw [5, 6, 7] (fun vo vs vi wr => BRelQ w #[.int .i64 h.id, .bool h.an, .int .i64 h.op, .bool h.aa, .bool h.tc, .bool h.rd, .bool h.ra, .bool h.z, .bool h.ad, .bool h.cd, .int .i64 h.code, .slice xq qs.length cq, .slice x1 r1.length c1, .slice x2 r2.length c2, .slice x3 r3.length c3] qs s0 vo vs vi wr) (fun _ _ i _ => qs.length - (intOf i).toNat)
  case atStart => exact ⟨0, Nat.zero_le _, rfl, fun q hq => by simp at hq, by simpa [XX.out] using R4.out, by simp only [List.take_zero, List.foldl_nil, TT.out, List.map_nil]; exact World.ownsRow_nil _ _ _ _, B4.out, K4.out⟩
  case round =>
    clear R4 B4 K4 hX0 hX1 hX2 hX3 hX4 E0 E1 E2 E3 E4
    obtain ⟨i, hi, rfl, hall, hrb, hri, hbel, hbl⟩ := hrel
    have hB := hbel.size
    have hLQ := long_q (qs.take i) s0
    have hLE := longQ_le (qs.take i) hall
    have hTL : (qs.take i).length ≤ 65535 := by rw [List.length_take]; omega
    have g := good_qs G0.out hall
    obtain ⟨s, hs⟩ : ∃ s, (qs.take i).foldl stepQ s0 = s := ⟨_, rfl⟩
    rw [hs] at hrb hri hLQ g
    rw [LS0.out] at hLQ
    have hsl : s.1.length ≤ 16973577 := by omega
    have htl := g.2.2
    obtain ⟨sx, sc, hvo, hby⟩ := rowb_bys hrb (by omega) g.1
    subst hvo
    obtain ⟨tx, tc, hvs, hin⟩ := rowi_ints hri (by rw [List.length_map]; omega) (fun z hz => by
      obtain ⟨e, he, rfl⟩ := List.mem_map.1 hz
      have := (g.2.1 e he).1
      omega)
    rw [List.length_map] at hvs
    subst hvs
    have G := hid g
    have HS := hid hs
    have HAL := hid hall
    have RB := hid hrb
    have RI := hid hri
    have BY := hid hby
    have IN := hid hin
    have BL := hid hbel
    have ML := hid hbl
    clear g hs hall hrb hri hby hin hLQ hLE hTL
    by_cases ci : i < qs.length
    · have ci2 : (i : Int) < (qs.length : Int) := by omega
      have m11 := hbl.cell (i := 11) rfl
      obtain ⟨b0, o0, y, sq, exq, hb0, e0, e1, e2, hS⟩ := (Q.out.below hbel).at ci
      have HSP : Hid (qs = qs.take i ++ qs[i] :: qs.drop (i + 1)) := hid (by rw [← List.drop_eq_getElem_cons ci, List.take_append_drop])
      have HT : Hid (qs.take (i + 1) = qs.take i ++ [qs[i]]) := hid (List.take_succ_eq_append_getElem ci)
      generalize qs[i] = q at *
      subst exq
      have BA := hid ((Below.refl _ wr).alloc (Nat.le_refl _) (.cells #[.slice y q.N.length sq, .int .i64 q.ty, .int .i64 q.cl] 65))
      have KA := hid (Bl.new 65 wr #[.slice y q.N.length sq, .int .i64 q.ty, .int .i64 q.cl])
      have S1 := hid (hS.below BA.out)
      obtain ⟨r, hr⟩ : ∃ r, Nm.checkN (q.N.map Nm.bs) = r := ⟨_, rfl⟩
      have HR := hid hr
      have HEX : Hid (¬ qE q = 0 → msgE h qs r1 r2 r3 = qE q) := hid (fun k0 => by
        have f := firstE_at (post := qs.drop (i + 1)) HAL.out k0
        rw [← HSP.out] at f
        unfold msgE
        rw [hdE_ok HH.out, if_neg (by simp), if_neg (by omega), f, if_pos k0])
      have B2 := hid (grown_on BL.out BA.out)
      have BY2 := hid (BY.out.below BA.out)
      have IN2 := hid (IN.out.below BA.out)
      have ML2 := hid (ML.out.below BA.out)
      clear hS hr hbel hbl BY IN ML RB RI BL BA
      go_wp2_with fail
      refine (fault_at r q.N _ S1.out rfl HR.out).mono ?_
      rintro e w3 ⟨rfl, rfl⟩
      clear e0 e1 e2 m11
      generalize wr.heap.size = gq at *
      generalize wr.alloc (.cells #[.slice y q.N.length sq, .int .i64 q.ty, .int .i64 q.cl] 65) = w3 at *
      have f0 := KA.out.cell (i := 0) rfl
      have f1 := KA.out.cell (i := 1) rfl
      have f2 := KA.out.cell (i := 2) rfl
      by_cases r0 : r = 0
      case neg =>
        have hqe : qE q = r := by unfold qE; rw [HR.out, if_pos r0]
        have HE : Hid (msgE h qs r1 r2 r3 = r) := hid (by rw [HEX.out (by rw [hqe]; exact r0), hqe])
        have R0 := hid r0
        have r0' : (r == 0) = false := beq_eq_false_iff_ne.2 r0
        have r0'' : (r != 0) = true := bne_iff_ne.2 r0
        clear r0 hqe
        go_wp2_with fail
        go_ret2
        exact mbPost_bad HE.out R0.out B2.out
      subst r0
      have HE6 : Hid (¬ ((0 ≤ q.ty ∧ q.ty ≤ 65535) ∧ (0 ≤ q.cl ∧ q.cl ≤ 65535)) → msgE h qs r1 r2 r3 = 6) := hid (fun k => by
        have hqe : qE q = 6 := by unfold qE; rw [HR.out, if_neg (by simp), if_pos k]
        rw [HEX.out (by rw [hqe]; decide), hqe])
      by_cases a1 : 0 ≤ q.ty ∧ q.ty ≤ 65535
      case neg =>
        have HA := hid a1
        clear a1
        go_wp2_with fail
        refine (rword_any false q.ty _ (decide_eq_false HA.out)).mono ?_
        rintro e w4 ⟨rfl, rfl⟩
        go_wp2_with fail
        go_ret2
        exact mbPost_bad (HE6.out (fun k => HA.out k.1)) (by decide) B2.out
      by_cases a2 : 0 ≤ q.cl ∧ q.cl ≤ 65535
      case neg =>
        have HA := hid a1
        have HA2 := hid a2
        clear a1 a2
        go_wp2_with fail
        refine (rword_any true q.ty _ (decide_eq_true HA.out)).mono ?_
        rintro e w4 ⟨rfl, rfl⟩
        go_wp2_with fail
        refine (rword_any false q.cl _ (decide_eq_false HA2.out)).mono ?_
        rintro e w4 ⟨rfl, rfl⟩
        go_wp2_with fail
        go_ret2
        exact mbPost_bad (HE6.out (fun k => HA2.out k.2)) (by decide) B2.out
      have HA := hid a1
      have HA2 := hid a2
      have HQ0 : Hid (qE q = 0) := hid (by unfold qE; rw [HR.out, if_neg (by simp), if_neg (by simp only [Decidable.not_not]; exact ⟨a1, a2⟩)])
      obtain ⟨a3, a4⟩ := a1
      obtain ⟨a5, a6⟩ := a2
      clear HE6 HEX
      go_wp2_with fail
      refine (rword_any true q.ty _ (decide_eq_true HA.out)).mono ?_
      rintro e w4 ⟨rfl, rfl⟩
      go_wp2_with fail
      refine (rword_any true q.cl _ (decide_eq_true HA2.out)).mono ?_
      rintro e w4 ⟨rfl, rfl⟩
      go_wp2_with fail
      refine (packed_any s.1 s.2 q.N _ BY2.out IN2.out S1.out G.out.2.1 rfl rfl rfl HR.out (by omega) (by omega)).mono ?_
      rintro e w5 ⟨v5, u5', rfl, r5, i5, b5⟩
      have hsz5 := B2.out.size
      have R5' : Rowb w5 w.heap.size v5 (s.1 ++ packB s.2 q.N) := owns_base r5 hsz5
      have I5 : Hid (Rowi w5 w.heap.size u5' ((s.2 ++ newT s.1.length q.N (keptN s.2 q.N)).map (·.1))) := hid (owns_base i5 hsz5)
      have B5 := hid (grown_on B2.out b5)
      have K5 := hid (KA.out.below b5)
      have M5 := hid (ML2.out.below b5)
      have hpl := (packB_len s.2 q.N).2
      have hck := (check_zero HR.out).2
      have hZ5 : (s.1 ++ packB s.2 q.N).length ≤ 16973577 + 255 := by rw [List.length_append]; omega
      obtain ⟨Z5, hz5⟩ : ∃ X, s.1 ++ packB s.2 q.N = X := ⟨_, rfl⟩
      rw [hz5] at R5' hZ5
      have F5 := hid hz5
      have R5 := hid R5'
      clear r5 i5 b5 R5' hz5 BY2 IN2 ML2 KA S1 f0 f1 f2 B2 hsz5 hpl hck
      have c5 := K5.out.cell (i := 1) rfl
      go_wp2_with fail
      refine (rpair_any (q.ty) _ (by omega) (by omega)).mono ?_
      rintro e wa ⟨rfl, ya, hga, ba⟩
      have Y5 := hid ya
      have Ra5 := hid (owns_stay R5.out ba)
      have Ia5 := hid (owns_stay I5.out ba)
      have Ma5 := hid (M5.out.below ba)
      have Ba5 := hid (grown_on B5.out ba)
      have Ka5 := hid (K5.out.below ba)
      have hS5 := Ba5.out.size
      clear ya hga ba R5 I5 M5 B5 K5 c5
      go_wp2_with (at_builtin; refine wpList_append_bys (ys := twoN (q.ty)) rfl _ _ rfl rfl rfl (show Rowb _ w.heap.size _ Z5 from Ra5.out) Y5.out (by rw [two_len]; omega) hS5 ?_)
      intro vb wb rb gb
      have R6' : Rowb wb w.heap.size vb (Z5 ++ twoN (q.ty)) := rb
      have I6 := hid (World.ownsRow.kept Ia5.out gb (apart_of (by decide) Ia5.out Ra5.out))
      have B6 := hid (grown_below (show Rowb _ w.heap.size _ Z5 from Ra5.out) Ba5.out hS5 gb)
      have K6 := hid (Ka5.out.kept gb (rowb_ne Ra5.out Ka5.out (by decide)))
      have M6 := hid (Ma5.out.kept gb (rowb_ne Ra5.out Ma5.out (by decide)))
      have hZ6 : (Z5 ++ twoN (q.ty)).length = Z5.length + 2 := by rw [List.length_append, two_len]
      obtain ⟨Z6, hz6⟩ : ∃ X, Z5 ++ twoN (q.ty) = X := ⟨_, rfl⟩
      rw [hz6] at R6' hZ6
      have F6 := hid hz6
      have R6 := hid R6'
      clear rb gb Ra5 Ia5 Ma5 Ba5 Ka5 Y5 hS5 hz6 R6'
      have c6 := K6.out.cell (i := 2) rfl
      go_wp2_with fail
      refine (rpair_any (q.cl) _ (by omega) (by omega)).mono ?_
      rintro e wa ⟨rfl, ya, hga, ba⟩
      have Y6 := hid ya
      have Ra6 := hid (owns_stay R6.out ba)
      have Ia6 := hid (owns_stay I6.out ba)
      have Ma6 := hid (M6.out.below ba)
      have Ba6 := hid (grown_on B6.out ba)
      have Ka6 := hid (K6.out.below ba)
      have hS6 := Ba6.out.size
      clear ya hga ba R6 I6 M6 B6 K6 c6
      go_wp2_with (at_builtin; refine wpList_append_bys (ys := twoN (q.cl)) rfl _ _ rfl rfl rfl (show Rowb _ w.heap.size _ Z6 from Ra6.out) Y6.out (by rw [two_len]; omega) hS6 ?_)
      intro vb wb rb gb
      have R7' : Rowb wb w.heap.size vb (Z6 ++ twoN (q.cl)) := rb
      have I7 := hid (World.ownsRow.kept Ia6.out gb (apart_of (by decide) Ia6.out Ra6.out))
      have B7 := hid (grown_below (show Rowb _ w.heap.size _ Z6 from Ra6.out) Ba6.out hS6 gb)
      have K7 := hid (Ka6.out.kept gb (rowb_ne Ra6.out Ka6.out (by decide)))
      have M7 := hid (Ma6.out.kept gb (rowb_ne Ra6.out Ma6.out (by decide)))
      have hZ7 : (Z6 ++ twoN (q.cl)).length = Z6.length + 2 := by rw [List.length_append, two_len]
      obtain ⟨Z7, hz7⟩ : ∃ X, Z6 ++ twoN (q.cl) = X := ⟨_, rfl⟩
      rw [hz7] at R7' hZ7
      have F7 := hid hz7
      have R7 := hid R7'
      clear rb gb Ra6 Ia6 Ma6 Ba6 Ka6 Y6 hS6 hz7 R7'
      go_wp2_with fail
      refine ⟨⟨i + 1, by omega, by go_num, (by
        rw [HT.out]
        intro x hx
        rcases List.mem_append.1 hx with hx | hx
        · exact HAL.out x hx
        · rw [List.mem_singleton.1 hx]; exact HQ0.out), ?_, ?_, B7.out, M7.out⟩, by simp [intOf]; omega⟩
      · rw [HT.out, List.foldl_append, HS.out]
        show Rowb _ _ _ (s.1 ++ packB s.2 q.N ++ (twoN q.ty ++ twoN q.cl))
        rw [F5.out, ← List.append_assoc, F6.out, F7.out]
        exact R7.out
      · rw [HT.out, List.foldl_append, HS.out]
        exact I7.out
    · have ei : i = qs.length := by omega
      subst ei
      have ci2 : ¬ (qs.length : Int) < (qs.length : Int) := by omega
      have et : qs.take qs.length = qs := List.take_of_length_le (Nat.le_refl _)
      have hqa := HAL.out
      rw [et] at hqa
      have hss := HS.out
      rw [et] at hss
      have QA := hid hqa
      have HSS := hid hss
      clear et hqa hss HAL HS
      have e0 := hbl.cell (i := 0) rfl
      have e1 := hbl.cell (i := 1) rfl
      have e2 := hbl.cell (i := 2) rfl
      have e3 := hbl.cell (i := 3) rfl
      have e4 := hbl.cell (i := 4) rfl
      have e5 := hbl.cell (i := 5) rfl
      have e6 := hbl.cell (i := 6) rfl
      have e7 := hbl.cell (i := 7) rfl
      have e8 := hbl.cell (i := 8) rfl
      have e9 := hbl.cell (i := 9) rfl
      have e10 := hbl.cell (i := 10) rfl
      have e11 := hbl.cell (i := 11) rfl
      have e12 := hbl.cell (i := 12) rfl
      have e13 := hbl.cell (i := 13) rfl
      have e14 := hbl.cell (i := 14) rfl
      obtain ⟨rs, hrs⟩ : ∃ l, l = r1 ++ r2 ++ r3 := ⟨_, rfl⟩
      have rl : rs.length ≤ 196605 := by rw [hrs, List.length_append, List.length_append]; omega
      have HDR : Hid (∀ r ∈ rs, ∀ b ∈ r.D, 0 ≤ b ∧ b ≤ 255) := hid (fun r hr => HD.out r (by rw [← hrs]; exact hr))
      have HRS := hid hrs
      clear hrs hbel hbl hi ci
      go_wp2_with fail
      refine (all_any h r1 r2 r3 rs HRS _ (R1.out.below BL.out) (R2.out.below BL.out) (R3.out.below BL.out) (by omega) (by omega) (by omega)).mono ?_
      rintro e w6 ⟨xr, cr, rfl, hR6, b6⟩
      have B6 := hid (grown_on BL.out b6)
      have RB6 := hid (owns_stay RB.out b6)
      have RI6 := hid (owns_stay RI.out b6)
      have R6 := hid hR6
      clear b6 hR6 e0 e1 e2 e3 e4 e5 e6 e7 e8 e9 e10 e11 e12 e13 e14 RB RI BY IN BL ML
      go_wp2_with fail
      go_loopw [5, 6, 10] (fun vo vs vi wr => BRelR w rs s xr cr vo vs vi wr) (fun _ _ i _ => rs.length - (intOf i).toNat)
      case atStart => exact ⟨0, Nat.zero_le _, rfl, fun q hq => by simp at hq, RB6.out, RI6.out, B6.out, R6.out⟩
      case round =>
        clear RB6 RI6 B6 R6
        obtain ⟨j, hj, rfl, hall, hrb, hri, hbel, hrr⟩ := hrel
        have hB := hbel.size
        have hLR := long_r (rs.take j) s
        have hLE := longR_le (rs.take j) hall
        have hTL : (rs.take j).length * 65900 ≤ 12956269500 := Nat.mul_le_mul_right 65900 (show (rs.take j).length ≤ 196605 by rw [List.length_take]; omega)
        have g := good_rs G.out hall (fun r hr => HDR.out r (List.mem_of_mem_take hr))
        obtain ⟨t, ht⟩ : ∃ t, (rs.take j).foldl stepR s = t := ⟨_, rfl⟩
        rw [ht] at hrb hri hLR g
        have hsl2 : t.1.length ≤ 13000000000 := by omega
        have htl2 := g.2.2
        obtain ⟨sx2, sc2, hvo, hby⟩ := rowb_bys hrb (by omega) g.1
        subst hvo
        obtain ⟨tx2, tc2, hvs, hin⟩ := rowi_ints hri (by rw [List.length_map]; omega) (fun z hz => by
          obtain ⟨e, he, rfl⟩ := List.mem_map.1 hz
          have := (g.2.1 e he).1
          omega)
        rw [List.length_map] at hvs
        subst hvs
        have GG := hid g
        have HT2 := hid ht
        have HAL := hid hall
        have RB := hid hrb
        have BY := hid hby
        have IN := hid hin
        have BL := hid hbel
        have RR := hid hrr
        clear g ht hall hrb hri hby hin hLR hLE hTL
        by_cases cj : j < rs.length
        · have cj2 : (j : Int) < (rs.length : Int) := by omega
          obtain ⟨b0, o0, y, s5, z, q5, exr, hb0, e0, e1, e2, e3, e4, hS, hZ, _⟩ := hrr.at cj
          have HSP : Hid (rs = rs.take j ++ rs[j] :: rs.drop (j + 1)) := hid (by rw [← List.drop_eq_getElem_cons cj, List.take_append_drop])
          have HT : Hid (rs.take (j + 1) = rs.take j ++ [rs[j]]) := hid (List.take_succ_eq_append_getElem cj)
          generalize rs[j] = r at *
          subst exr
          have S1 := hid hS
          have Z1 := hid hZ
          have hdl : r.D.length ≤ 200000000000000 := hZ.2.1
          obtain ⟨k, hk⟩ : ∃ k, recE r.N r.ty r.cl r.ttl r.D = k := ⟨_, rfl⟩
          have HK := hid hk
          clear hS hZ hk hrr hbel
          go_wp2_with fail
          refine (rfault_any k r.N r.ty r.cl r.ttl r.D _ S1.out hdl HK.out).mono ?_
          rintro e w8 ⟨rfl, b8⟩
          have B8 := hid (grown_on BL.out b8)
          by_cases k0 : k = 0
          case neg =>
            have HE : Hid (msgE h qs r1 r2 r3 = k) := hid (by
              have f := firstE_at (f := rE) (post := rs.drop (j + 1)) HAL.out (show ¬ rE r = 0 by unfold rE; rw [HK.out]; exact k0)
              rw [← HSP.out, HRS.out] at f
              have f2 : rE r = k := HK.out
              unfold msgE
              rw [hdE_ok HH.out, if_neg (by simp), if_neg (by omega), firstE_zero QA.out, if_neg (by simp), f, f2, if_pos k0])
            have K0 := hid k0
            have k0' : (k != 0) = true := bne_iff_ne.2 k0
            clear k0 b8 e0 e1 e2 e3 e4
            go_wp2_with fail
            go_ret2
            exact mbPost_bad HE.out K0.out B8.out
          subst k0
          have q0 := (b8.cell (p := ⟨b0, o0 + j * 5, none⟩) hb0).trans e0
          have q1 := (b8.cell (p := ⟨b0, o0 + j * 5 + 1, none⟩) hb0).trans e1
          have q2 := (b8.cell (p := ⟨b0, o0 + j * 5 + 2, none⟩) hb0).trans e2
          have q3 := (b8.cell (p := ⟨b0, o0 + j * 5 + 3, none⟩) hb0).trans e3
          have q4 := (b8.cell (p := ⟨b0, o0 + j * 5 + 4, none⟩) hb0).trans e4
          have S8 := hid (S1.out.below b8)
          have Z8 := hid (Z1.out.below b8)
          have BY8 := hid (BY.out.below b8)
          have IN8 := hid (IN.out.below b8)
          have RR8 := hid (RR.out.below b8)
          have hsz8 := B8.out.size
          clear b8 e0 e1 e2 e3 e4 S1 Z1 BY IN RR RB BL
          go_wp2_with fail
          refine (with_any t.1 t.2 r.N r.ty r.cl r.ttl r.D _ BY8.out IN8.out S8.out Z8.out GG.out.2.1 rfl rfl HK.out (by omega) (by omega)).mono ?_
          rintro e w9 ⟨v9, u9', rfl, r9, i9, b9⟩
          have R9 : Hid (Rowb w9 w.heap.size v9 (t.1 ++ packB t.2 r.N ++ fieldsN r.ty r.cl r.ttl r.D)) := hid (owns_base r9 hsz8)
          have I9 : Hid (Rowi w9 w.heap.size u9' ((t.2 ++ newT t.1.length r.N (keptN t.2 r.N)).map (·.1))) := hid (owns_base i9 hsz8)
          have B9 := hid (grown_on B8.out b9)
          have RR9 := hid (RR8.out.below b9)
          clear r9 i9 b9 B8 RR8 BY8 IN8 S8 Z8 q0 q1 q2 q3 q4
          go_wp2_with fail
          refine ⟨⟨j + 1, by omega, by go_num, (by
            rw [HT.out]
            intro x hx
            rcases List.mem_append.1 hx with hx | hx
            · exact HAL.out x hx
            · rw [List.mem_singleton.1 hx]; exact HK.out), ?_, ?_, B9.out, RR9.out⟩, by simp [intOf]; omega⟩
          · rw [HT.out, List.foldl_append, HT2.out]
            exact R9.out
          · rw [HT.out, List.foldl_append, HT2.out]
            exact I9.out
        · have ej : j = rs.length := by omega
          subst ej
          have cj2 : ¬ (rs.length : Int) < (rs.length : Int) := by omega
          have et : rs.take rs.length = rs := List.take_of_length_le (Nat.le_refl _)
          have hra := HAL.out
          rw [et] at hra
          have htt := HT2.out
          rw [et] at htt
          have HF : Hid ((endS h qs r1 r2 r3).1 = t.1) := hid (by unfold endS; rw [HS0.out, HSS.out, ← HRS.out, htt])
          have HM : Hid (msgE h qs r1 r2 r3 = if 65535 < t.1.length then 7 else 0) := hid (by
            unfold msgE
            rw [hdE_ok HH.out, if_neg (by simp), if_neg (by omega), firstE_zero QA.out, if_neg (by simp), firstE_zero (by rw [← HRS.out]; exact hra), if_neg (by simp), HF.out])
          clear et hra htt hrr
          by_cases cl : (65535 : Int) < (t.1.length : Int)
          · have HE : Hid (msgE h qs r1 r2 r3 = 7) := hid (by rw [HM.out, if_pos (by omega)])
            go_wp2_with fail
            go_ret2
            exact mbPost_bad HE.out (by decide) BL.out
          · have HE : Hid (msgE h qs r1 r2 r3 = 0) := hid (by rw [HM.out, if_neg (by omega)])
            go_wp2_with fail
            go_ret2
            exact Or.inl ⟨HE.out, _, rfl, by rw [HF.out]; exact RB.out, BL.out⟩

end Go.Proofs.YtbbgabdiikdjpaaDoor

namespace Go.Proofs.YtbbgabdiikdjpaaDoor
open Go.RowKit Go.Deep

def hdNil : Hd := ⟨0, false, 0, false, false, false, false, false, false, false, 0⟩

/-- What bytes are read as. -/
def resM (ms : List Int) : Hd × List Qn × List Rn × List Rn × List Rn × Int :=
  if (msgR ms).1 = 0 then (hdR ms, (msgR ms).2.1, (msgR ms).2.2.1, (msgR ms).2.2.2.1, (msgR ms).2.2.2.2, 0) else (hdNil, [], [], [], [], (msgR ms).1)

theorem resM_ok {ms : List Int} {qs : List Qn} {r1 r2 r3 : List Rn} (h : msgR ms = (0, qs, r1, r2, r3)) : resM ms = (hdR ms, qs, r1, r2, r3, 0) := by
  unfold resM; rw [h, if_pos rfl]
theorem resM_no {ms : List Int} {k : Int} (h : msgR ms = (k, [], [], [], [])) (hk : ¬ k = 0) : resM ms = (hdNil, [], [], [], [], k) := by
  unfold resM; rw [h, if_neg hk]

theorem mof_at {x : Option Addr} {c l : Nat} (ms : List Int) (w : World) (hs : Bys w x c ms) (hl : ms.length = l) (h : Hd) (qs : List Qn) (r1 r2 r3 : List Rn) (k : Int) (hr : resM ms = (h, qs, r1, r2, r3, k)) :
    Calls Tryd.prog 5 #[.slice x l c] w fun e w' => ∃ xq xcq x1 xc1 x2 xc2 x3 xc3, e = .returned (.tuple #[.agg #[.int .i64 h.id, .bool h.an, .int .i64 h.op, .bool h.aa, .bool h.tc, .bool h.rd, .bool h.ra, .bool h.z, .bool h.ad, .bool h.cd, .int .i64 h.code, .slice xq qs.length xcq, .slice x1 r1.length xc1, .slice x2 r2.length xc2, .slice x3 r3.length xc3], .int .i64 k]) ∧ Qs w' 0 xq xcq qs ∧ Rs w' 0 x1 xc1 r1 ∧ Rs w' 0 x2 xc2 r2 ∧ Rs w' 0 x3 xc3 r3 ∧ Below w.heap.size w w' := by
  refine (mof_any ms w hs hl).mono ?_
  rintro e w' (⟨h', qs', s1, s2, s3, xq, cq, x1, c1, x2, c2, x3, c3, hh, hm, rfl, k0, k1, k2, k3, kb⟩ | ⟨k', hk, hm, rfl, kb⟩)
  · rw [resM_ok hm, hh] at hr
    simp only [Prod.mk.injEq] at hr
    obtain ⟨rfl, rfl, rfl, rfl, rfl, rfl⟩ := hr
    exact ⟨xq, cq, x1, c1, x2, c2, x3, c3, rfl, k0, k1, k2, k3, kb⟩
  · rw [resM_no hm hk] at hr
    simp only [Prod.mk.injEq] at hr
    obtain ⟨rfl, rfl, rfl, rfl, rfl, rfl⟩ := hr
    exact ⟨none, 0, none, 0, none, 0, none, 0, rfl, Qs.nil _ _ _ _, Rs.nil _ _ _ _, Rs.nil _ _ _ _, Rs.nil _ _ _ _, kb⟩

theorem mread_at {x : Option Addr} {c l : Nat} (ms : List Int) (w : World) (hs : Bys w x c ms) (hl : ms.length = l) (h : Hd) (qs : List Qn) (r1 r2 r3 : List Rn) (k : Int) (v : Value) (hr : resM ms = (h, qs, r1, r2, r3, k)) (hv : errV k = v) :
    Calls Tryd.prog 6 #[.slice x l c] w fun e w' => ∃ xq xcq x1 xc1 x2 xc2 x3 xc3, e = .returned (.tuple #[.agg #[.int .i64 h.id, .bool h.an, .int .i64 h.op, .bool h.aa, .bool h.tc, .bool h.rd, .bool h.ra, .bool h.z, .bool h.ad, .bool h.cd, .int .i64 h.code, .slice xq qs.length xcq, .slice x1 r1.length xc1, .slice x2 r2.length xc2, .slice x3 r3.length xc3], v]) ∧ Qs w' 0 xq xcq qs ∧ Rs w' 0 x1 xc1 r1 ∧ Rs w' 0 x2 xc2 r2 ∧ Rs w' 0 x3 xc3 r3 ∧ Below w.heap.size w w' := by
  subst hv
  refine (mread_any ms w hs hl).mono ?_
  rintro e w' (⟨qs', s1, s2, s3, hm, xq, cq, x1, c1, x2, c2, x3, c3, rfl, k0, k1, k2, k3, kb⟩ | ⟨k', hk, hm, rfl, kb⟩)
  · rw [resM_ok hm] at hr
    simp only [Prod.mk.injEq] at hr
    obtain ⟨rfl, rfl, rfl, rfl, rfl, rfl⟩ := hr
    exact ⟨xq, cq, x1, c1, x2, c2, x3, c3, by rw [errV_none], k0.base (Nat.zero_le _), k1.base (Nat.zero_le _), k2.base (Nat.zero_le _), k3.base (Nat.zero_le _), kb⟩
  · rw [resM_no hm hk] at hr
    simp only [Prod.mk.injEq] at hr
    obtain ⟨rfl, rfl, rfl, rfl, rfl, rfl⟩ := hr
    exact ⟨none, 0, none, 0, none, 0, none, 0, by rw [errV_some hk]; rfl, Qs.nil _ _ _ _, Rs.nil _ _ _ _, Rs.nil _ _ _ _, Rs.nil _ _ _ _, kb⟩

/-- What a message is written as. -/
def outM (h : Hd) (qs : List Qn) (r1 r2 r3 : List Rn) : List Int × Int := if msgE h qs r1 r2 r3 = 0 then ((endS h qs r1 r2 r3).1, 0) else ([], msgE h qs r1 r2 r3)

theorem outM_bytes {x1 x2 x3 : Option Addr} {c1 c2 c3 bq : Nat} {h : Hd} {qs : List Qn} {r1 r2 r3 : List Rn} {w w' : World} {B : Nat} {v : Value} (hr1 : Rs w bq x1 c1 r1) (hr2 : Rs w bq x2 c2 r2) (hr3 : Rs w bq x3 c3 r3) (hE : msgE h qs r1 r2 r3 = 0) (hrow : Rowb w' B v (endS h qs r1 r2 r3).1) : ∃ x c, v = .slice x (endS h qs r1 r2 r3).1.length c ∧ Bys w' x c (endS h qs r1 r2 r3).1 := by
  have hD : ∀ r ∈ r1 ++ r2 ++ r3, ∀ b ∈ r.D, 0 ≤ b ∧ b ≤ 255 := by
    intro r hr
    simp only [List.mem_append] at hr
    rcases hr with (hr | hr) | hr
    · exact hr1.data r hr
    · exact hr2.data r hr
    · exact hr3.data r hr
  have hb := (msg_back hE hD).2.2
  have hl := (msgE_zero hE).2.2.2.2
  obtain ⟨x, c, hv, hy, _, _⟩ := rowb_new hrow (by omega) hb
  exact ⟨x, c, hv, hy⟩

theorem mbytes_at {xq x1 x2 x3 : Option Addr} {cq c1 c2 c3 bq : Nat} (h : Hd) (qs : List Qn) (r1 r2 r3 : List Rn) (w : World) (hq : Qs w bq xq cq qs) (hr1 : Rs w bq x1 c1 r1) (hr2 : Rs w bq x2 c2 r2) (hr3 : Rs w bq x3 c3 r3) (F : List Int) (k : Int) (ho : outM h qs r1 r2 r3 = (F, k)) :
    Calls Tryd.prog 9 #[.agg #[.int .i64 h.id, .bool h.an, .int .i64 h.op, .bool h.aa, .bool h.tc, .bool h.rd, .bool h.ra, .bool h.z, .bool h.ad, .bool h.cd, .int .i64 h.code, .slice xq qs.length cq, .slice x1 r1.length c1, .slice x2 r2.length c2, .slice x3 r3.length c3]] w fun e w' => ∃ x c, e = .returned (.tuple #[.slice x F.length c, .int .i64 k]) ∧ Bys w' x c F ∧ Below w.heap.size w w' := by
  refine (mbytes_any h qs r1 r2 r3 w hq hr1 hr2 hr3).mono ?_
  unfold outM at ho
  rintro e w' (⟨hE, v, rfl, hrow, kb⟩ | ⟨hE, rfl, kb⟩)
  · rw [if_pos hE] at ho
    simp only [Prod.mk.injEq] at ho
    obtain ⟨rfl, rfl⟩ := ho
    obtain ⟨x, c, rfl, hy⟩ := outM_bytes hr1 hr2 hr3 hE hrow
    exact ⟨x, c, rfl, hy, kb⟩
  · rw [if_neg hE] at ho
    simp only [Prod.mk.injEq] at ho
    obtain ⟨rfl, rfl⟩ := ho
    exact ⟨none, 0, rfl, Bys.nil _ _ _, kb⟩

theorem mwrite_at {xq x1 x2 x3 : Option Addr} {cq c1 c2 c3 bq : Nat} (h : Hd) (qs : List Qn) (r1 r2 r3 : List Rn) (w : World) (hq : Qs w bq xq cq qs) (hr1 : Rs w bq x1 c1 r1) (hr2 : Rs w bq x2 c2 r2) (hr3 : Rs w bq x3 c3 r3) (F : List Int) (k : Int) (v : Value) (ho : outM h qs r1 r2 r3 = (F, k)) (hv : errV k = v) :
    Calls Tryd.prog 10 #[.agg #[.int .i64 h.id, .bool h.an, .int .i64 h.op, .bool h.aa, .bool h.tc, .bool h.rd, .bool h.ra, .bool h.z, .bool h.ad, .bool h.cd, .int .i64 h.code, .slice xq qs.length cq, .slice x1 r1.length c1, .slice x2 r2.length c2, .slice x3 r3.length c3]] w fun e w' => ∃ x c, e = .returned (.tuple #[.slice x F.length c, v]) ∧ Bys w' x c F ∧ Below w.heap.size w w' := by
  subst hv
  refine (mwrite_any h qs r1 r2 r3 w hq hr1 hr2 hr3).mono ?_
  unfold outM at ho
  rintro e w' (⟨hE, x, c, rfl, hrow, kb⟩ | ⟨hE, rfl, kb⟩)
  · rw [if_pos hE] at ho
    simp only [Prod.mk.injEq] at ho
    obtain ⟨rfl, rfl⟩ := ho
    obtain ⟨x', c', hv, hy⟩ := outM_bytes hr1 hr2 hr3 hE hrow
    simp only [Value.slice.injEq, true_and] at hv
    obtain ⟨rfl, rfl⟩ := hv
    exact ⟨x, c, by rw [errV_none], hy, kb⟩
  · rw [if_neg hE] at ho
    simp only [Prod.mk.injEq] at ho
    obtain ⟨rfl, rfl⟩ := ho
    exact ⟨none, 0, by rw [errV_some hE]; rfl, Bys.nil _ _ _, kb⟩

set_option maxHeartbeats 20000000 in
set_option maxRecDepth 100000 in
theorem mtells_walk {x0 xq x1 x2 x3 : Option Addr} {c0 l0 xcq xc1 xc2 xc3 : Nat} (ms : List Int) (h : Hd) (qs : List Qn) (r1 r2 r3 : List Rn) (w : World) (hs : Bys w x0 c0 ms) (hl : ms.length = l0) (hq : Qs w 0 xq xcq qs) (hr1 : Rs w 0 x1 xc1 r1) (hr2 : Rs w 0 x2 xc2 r2) (hr3 : Rs w 0 x3 xc3 r3) (hg : Glob w) :
    Calls Tryd.prog 3 #[.slice x0 l0 c0, .agg #[.int .i64 h.id, .bool h.an, .int .i64 h.op, .bool h.aa, .bool h.tc, .bool h.rd, .bool h.ra, .bool h.z, .bool h.ad, .bool h.cd, .int .i64 h.code, .slice xq qs.length xcq, .slice x1 r1.length xc1, .slice x2 r2.length xc2, .slice x3 r3.length xc3]] w fun e w' => e = .returned (.bool true) ∧ Below w.heap.size w w' := by
  subst hl
  obtain ⟨⟨g, ps, s1, s2, s3, k⟩, hres⟩ : ∃ s, resM ms = s := ⟨_, rfl⟩
  obtain ⟨v, hv⟩ : ∃ v, errV k = v := ⟨_, rfl⟩
  obtain ⟨⟨F, j⟩, hout⟩ : ∃ s, outM h qs r1 r2 r3 = s := ⟨_, rfl⟩
  obtain ⟨u, hu⟩ : ∃ u, errV j = u := ⟨_, rfl⟩
  have HRES := hid hres
  have HV := hid hv
  have HOUT := hid hout
  have HU := hid hu
  have HS := hid hs
  have HQ := hid hq
  have H1 := hid hr1
  have H2 := hid hr2
  have H3 := hid hr3
  have HG := hid hg
  have B0 := hid ((Below.refl w.heap.size w).alloc (Nat.le_refl _) (.cells #[.int .i64 h.id, .bool h.an, .int .i64 h.op, .bool h.aa, .bool h.tc, .bool h.rd, .bool h.ra, .bool h.z, .bool h.ad, .bool h.cd, .int .i64 h.code, .slice xq qs.length xcq, .slice x1 r1.length xc1, .slice x2 r2.length xc2, .slice x3 r3.length xc3] 28))
  have KA := hid (Bl.new 28 w #[.int .i64 h.id, .bool h.an, .int .i64 h.op, .bool h.aa, .bool h.tc, .bool h.rd, .bool h.ra, .bool h.z, .bool h.ad, .bool h.cd, .int .i64 h.code, .slice xq qs.length xcq, .slice x1 r1.length xc1, .slice x2 r2.length xc2, .slice x3 r3.length xc3])
  clear hres hv hout hu hs hq hr1 hr2 hr3 hg
  go_enter Tryd.func3, Tryd.ntmps3
  go_upto_region 1 with fail
  generalize w.alloc (.cells #[.int .i64 h.id, .bool h.an, .int .i64 h.op, .bool h.aa, .bool h.tc, .bool h.rd, .bool h.ra, .bool h.z, .bool h.ad, .bool h.cd, .int .i64 h.code, .slice xq qs.length xcq, .slice x1 r1.length xc1, .slice x2 r2.length xc2, .slice x3 r3.length xc3] 28) = w0 at *
  go_wp2_with fail
  refine (mof_at ms w0 (HS.out.below B0.out) rfl g ps s1 s2 s3 k HRES.out).mono ?_
  rintro e w1 ⟨yq, ycq, y1, yc1, y2, yc2, y3, yc3, rfl, m0, m1, m2, m3, b1⟩
  have ba := (Below.refl w1.heap.size w1).alloc (Nat.le_refl _) (.cells #[.int .i64 g.id, .bool g.an, .int .i64 g.op, .bool g.aa, .bool g.tc, .bool g.rd, .bool g.ra, .bool g.z, .bool g.ad, .bool g.cd, .int .i64 g.code, .slice yq ps.length ycq, .slice y1 s1.length yc1, .slice y2 s2.length yc2, .slice y3 s3.length yc3] 28)
  have KY := hid (Bl.new 28 w1 #[.int .i64 g.id, .bool g.an, .int .i64 g.op, .bool g.aa, .bool g.tc, .bool g.rd, .bool g.ra, .bool g.z, .bool g.ad, .bool g.cd, .int .i64 g.code, .slice yq ps.length ycq, .slice y1 s1.length yc1, .slice y2 s2.length yc2, .slice y3 s3.length yc3])
  have M0 := hid (m0.below ba)
  have M1 := hid (m1.below ba)
  have M2 := hid (m2.below ba)
  have M3 := hid (m3.below ba)
  replace B0 := hid (grown_on (grown_on B0.out b1) ba)
  replace KA := hid ((KA.out.below b1).below ba)
  clear b1 ba m0 m1 m2 m3
  go_upto_region 2 with fail
  generalize w1.alloc (.cells #[.int .i64 g.id, .bool g.an, .int .i64 g.op, .bool g.aa, .bool g.tc, .bool g.rd, .bool g.ra, .bool g.z, .bool g.ad, .bool g.cd, .int .i64 g.code, .slice yq ps.length ycq, .slice y1 s1.length yc1, .slice y2 s2.length yc2, .slice y3 s3.length yc3] 28) = w2 at *
  generalize w1.heap.size = by1 at *
  go_wp2_with fail
  refine (mread_at ms w2 (HS.out.below B0.out) rfl g ps s1 s2 s3 k v HRES.out HV.out).mono ?_
  rintro e w3 ⟨zq, zcq, z1, zc1, z2, zc2, z3, zc3, rfl, m0, m1, m2, m3, b1⟩
  have ba := (Below.refl w3.heap.size w3).alloc (Nat.le_refl _) (.cells #[.int .i64 g.id, .bool g.an, .int .i64 g.op, .bool g.aa, .bool g.tc, .bool g.rd, .bool g.ra, .bool g.z, .bool g.ad, .bool g.cd, .int .i64 g.code, .slice zq ps.length zcq, .slice z1 s1.length zc1, .slice z2 s2.length zc2, .slice z3 s3.length zc3] 28)
  have KZ := hid (Bl.new 28 w3 #[.int .i64 g.id, .bool g.an, .int .i64 g.op, .bool g.aa, .bool g.tc, .bool g.rd, .bool g.ra, .bool g.z, .bool g.ad, .bool g.cd, .int .i64 g.code, .slice zq ps.length zcq, .slice z1 s1.length zc1, .slice z2 s2.length zc2, .slice z3 s3.length zc3])
  have N0 := hid (m0.below ba)
  have N1 := hid (m1.below ba)
  have N2 := hid (m2.below ba)
  have N3 := hid (m3.below ba)
  replace M0 := hid ((M0.out.below b1).below ba)
  replace M1 := hid ((M1.out.below b1).below ba)
  replace M2 := hid ((M2.out.below b1).below ba)
  replace M3 := hid ((M3.out.below b1).below ba)
  replace KY := hid ((KY.out.below b1).below ba)
  replace B0 := hid (grown_on (grown_on B0.out b1) ba)
  replace KA := hid ((KA.out.below b1).below ba)
  clear b1 ba m0 m1 m2 m3
  go_upto_region 3 with fail
  generalize w3.alloc (.cells #[.int .i64 g.id, .bool g.an, .int .i64 g.op, .bool g.aa, .bool g.tc, .bool g.rd, .bool g.ra, .bool g.z, .bool g.ad, .bool g.cd, .int .i64 g.code, .slice zq ps.length zcq, .slice z1 s1.length zc1, .slice z2 s2.length zc2, .slice z3 s3.length zc3] 28) = w4 at *
  generalize w3.heap.size = bz1 at *
  go_wp2_with fail
  refine (error_at k k v w4 (HG.out.below B0.out) HV.out rfl).mono ?_
  rintro e w5 ⟨rfl, b⟩
  replace N0 := hid (N0.out.below b)
  replace N1 := hid (N1.out.below b)
  replace N2 := hid (N2.out.below b)
  replace N3 := hid (N3.out.below b)
  replace M0 := hid (M0.out.below b)
  replace M1 := hid (M1.out.below b)
  replace M2 := hid (M2.out.below b)
  replace M3 := hid (M3.out.below b)
  replace KY := hid (KY.out.below b)
  replace KZ := hid (KZ.out.below b)
  replace KA := hid (KA.out.below b)
  replace B0 := hid (grown_on B0.out b)
  clear b
  go_upto_region 4 with fail
  have RY := hid (Bl.range [.int .i64 g.id, .bool g.an, .int .i64 g.op, .bool g.aa, .bool g.tc, .bool g.rd, .bool g.ra, .bool g.z, .bool g.ad, .bool g.cd, .int .i64 g.code, .slice yq ps.length ycq, .slice y1 s1.length yc1, .slice y2 s2.length yc2, .slice y3 s3.length yc3] KY.out)
  have RZ := hid (Bl.range [.int .i64 g.id, .bool g.an, .int .i64 g.op, .bool g.aa, .bool g.tc, .bool g.rd, .bool g.ra, .bool g.z, .bool g.ad, .bool g.cd, .int .i64 g.code, .slice zq ps.length zcq, .slice z1 s1.length zc1, .slice z2 s2.length zc2, .slice z3 s3.length zc3] KZ.out)
  go_wp2_with (first | (refine wpList_load_mid rfl 28 _ rfl bz1 0 rfl [.int .i64 g.id, .bool g.an, .int .i64 g.op, .bool g.aa, .bool g.tc, .bool g.rd, .bool g.ra, .bool g.z, .bool g.ad, .bool g.cd, .int .i64 g.code, .slice zq ps.length zcq, .slice z1 s1.length zc1, .slice z2 s2.length zc2, .slice z3 s3.length zc3] _ RZ.out Tryd.underlying28 rfl size_message ?_) | (refine wpList_load_mid rfl 28 _ rfl by1 0 rfl [.int .i64 g.id, .bool g.an, .int .i64 g.op, .bool g.aa, .bool g.tc, .bool g.rd, .bool g.ra, .bool g.z, .bool g.ad, .bool g.cd, .int .i64 g.code, .slice yq ps.length ycq, .slice y1 s1.length yc1, .slice y2 s2.length yc2, .slice y3 s3.length yc3] _ RY.out Tryd.underlying28 rfl size_message ?_) | fail)
  refine (smsg_at g ps s1 s2 s3 w5 N0.out N1.out N2.out N3.out M0.out M1.out M2.out M3.out).mono ?_
  rintro e w6 ⟨rfl, b⟩
  replace B0 := hid (grown_on B0.out b)
  replace KA := hid (KA.out.below b)
  clear b RY RZ KY KZ M0 M1 M2 M3 N0 N1 N2 N3
  go_upto_region 7 with fail
  have RA := hid (Bl.range [.int .i64 h.id, .bool h.an, .int .i64 h.op, .bool h.aa, .bool h.tc, .bool h.rd, .bool h.ra, .bool h.z, .bool h.ad, .bool h.cd, .int .i64 h.code, .slice xq qs.length xcq, .slice x1 r1.length xc1, .slice x2 r2.length xc2, .slice x3 r3.length xc3] KA.out)
  go_wp2_with (first | (refine wpList_load_mid rfl 28 _ rfl w.heap.size 0 rfl [.int .i64 h.id, .bool h.an, .int .i64 h.op, .bool h.aa, .bool h.tc, .bool h.rd, .bool h.ra, .bool h.z, .bool h.ad, .bool h.cd, .int .i64 h.code, .slice xq qs.length xcq, .slice x1 r1.length xc1, .slice x2 r2.length xc2, .slice x3 r3.length xc3] _ RA.out Tryd.underlying28 rfl size_message ?_) | fail)
  refine (mbytes_at h qs r1 r2 r3 w6 (HQ.out.below B0.out) (H1.out.below B0.out) (H2.out.below B0.out) (H3.out.below B0.out) F j HOUT.out).mono ?_
  rintro e w7 ⟨xf, cf, rfl, hf, b⟩
  have HF := hid hf
  replace B0 := hid (grown_on B0.out b)
  replace KA := hid (KA.out.below b)
  clear b hf RA
  go_upto_region 8 with fail
  have RA := hid (Bl.range [.int .i64 h.id, .bool h.an, .int .i64 h.op, .bool h.aa, .bool h.tc, .bool h.rd, .bool h.ra, .bool h.z, .bool h.ad, .bool h.cd, .int .i64 h.code, .slice xq qs.length xcq, .slice x1 r1.length xc1, .slice x2 r2.length xc2, .slice x3 r3.length xc3] KA.out)
  go_wp2_with (first | (refine wpList_load_mid rfl 28 _ rfl w.heap.size 0 rfl [.int .i64 h.id, .bool h.an, .int .i64 h.op, .bool h.aa, .bool h.tc, .bool h.rd, .bool h.ra, .bool h.z, .bool h.ad, .bool h.cd, .int .i64 h.code, .slice xq qs.length xcq, .slice x1 r1.length xc1, .slice x2 r2.length xc2, .slice x3 r3.length xc3] _ RA.out Tryd.underlying28 rfl size_message ?_) | fail)
  refine (mwrite_at h qs r1 r2 r3 w7 (HQ.out.below B0.out) (H1.out.below B0.out) (H2.out.below B0.out) (H3.out.below B0.out) F j u HOUT.out HU.out).mono ?_
  rintro e w8 ⟨xe, ce, rfl, he, b⟩
  have HE := hid he
  replace HF := hid (HF.out.below b)
  replace B0 := hid (grown_on B0.out b)
  clear b he RA KA
  go_wp2_with fail
  refine (error_at j j u w8 (HG.out.below B0.out) HU.out rfl).mono ?_
  rintro e w9 ⟨rfl, b⟩
  replace HF := hid (HF.out.below b)
  replace HE := hid (HE.out.below b)
  replace B0 := hid (grown_on B0.out b)
  clear b
  go_wp2_with fail
  refine (bytes_at true F F w9 HE.out HF.out rfl rfl (decide_eq_true rfl)).mono ?_
  rintro e w10 ⟨rfl, d⟩
  replace B0 := hid (grown_on B0.out d)
  clear d
  go_wp2_with fail
  go_ret
  exact ⟨rfl, B0.out⟩

end Go.Proofs.YtbbgabdiikdjpaaDoor
