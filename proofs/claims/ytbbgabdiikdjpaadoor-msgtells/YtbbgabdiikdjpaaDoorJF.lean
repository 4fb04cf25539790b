/-
  Bytes appended to a row of the call's own. The walks of package fresh's small functions: a copy of bytes, of texts; of a question, of a record. Options: plain, in memory; the walks of package edns' sizeOf and dataOf. The walk of package edns' recordOf: the record that has what a message is to tell of itself. Options read out of bytes, plain: what was written is read.
-/
import Derived.Test.YtbbgabdiikdjpaaDoorMgAll
import Derived.Test.YtbbgabdiikdjpaaDoorMgParts
import Derived.Deep.AppendSrc
import Derived.Deep.Upon
import Derived.Deep.Cut
import Derived.Test.YtbbgabdiikdjpaaDoorHeadWrite
namespace Go.Proofs.YtbbgabdiikdjpaaDoor
open Go.RowKit Go.Deep

/-- Bytes appended to a row of the call's own. -/
theorem wpList_append_bys {w : World} {B : Nat} {v : Value} {xs ys : List Int} {y : Option Addr} {c : Nat} {ops : Array Oper} {rest : List Oper} {o : Oper} {a : Act} {Q : Exit → Act → World → Prop} (hgd : o.guard = none) (sl x : Operand)
    (ho : o.op = .call { callee := .builtin .append, args := #[sl, x], argTypes := #[22, 22] }) (hs : a.eval sl = v) (hx : a.eval x = .slice y ys.length c) (hr : Rowb w B v xs) (hy : Bys w y c ys) (hl : xs.length + ys.length ≤ 100000000000000) (hB : B ≤ w.heap.size)
    (hK : ∀ v' w', Rowb w' B v' (xs ++ ys) → w.grownBy w' v.ownBlock → wpList Tryd.prog ops Q rest (a.put o.dst v') w') : wpList Tryd.prog ops Q (o :: rest) a w := by
  obtain ⟨i0, hi, hz0, hz1, hz2⟩ := info_of_byte
  cases y with
  | none =>
    have hn : ys = [] := by
      rcases hy.2.2.2 with q | ⟨b, off, q, _⟩
      · exact q
      · cases q
    subst hn
    refine wpList_plain hgd fun K hK' => ?_
    have hv : ∃ base cap, v = .slice base xs.length cap ∧ xs.length ≤ cap := by
      rcases hr.2 with ⟨e, e2⟩ | ⟨g, cap, cur, e, _, _, hn, _⟩
      · exact ⟨none, 0, by rw [e, e2], by omega⟩
      · exact ⟨_, cap, e, hn⟩
    obtain ⟨base, cap, rfl, hle⟩ := hv
    have hrun := run_append_nothing (P := Tryd.prog) w 22 22 o.type 5 i0 Tryd.underlying22 hi base xs.length cap hle _ (Src.ofNil w Tryd.underlying22 c)
    simp only [List.length_nil] at hx
    unfold Oper.wp execOp
    simp only [ho, resolve, invoke, builtin, Sem.run_bind, Sem.run_pure, Result.andThen_ok, List.map_toArray, List.map_cons, List.map_nil, hs, hx, hrun]
    exact hK' _ _ (hK _ w (by rw [List.append_nil]; exact hr) ⟨rfl, rfl, rfl, Nat.le_refl _, fun k _ _ => rfl⟩)
  | some ad =>
    have hq : ∀ j u, (ys.map (Value.int .u8))[j]? = some u → w.cell? (ad.add j) = some u := by
      rcases hy.2.2.2 with q | ⟨b, off, q, _, q2⟩
      · subst q; simp
      · cases q; exact bys_news q2
    refine wpList_append_own _ hgd sl x 22 ho B 5 i0 (.int .u8 0) 1 1 Tryd.underlying22 hi hz0 hz1 hz2 rfl (by decide) v _ _ hs hr ad ys.length c (ys.map (Value.int .u8)) hx (by simp) hq (one_cells ys) (by unfold maxLen; omega) (by omega) hB ?_
    intro v' w1 hown hg _
    exact hK v' w1 (Rowb.of hown (by simp) (by simp)) hg

end Go.Proofs.YtbbgabdiikdjpaaDoor

namespace Go.Proofs.YtbbgabdiikdjpaaDoor
open Go.RowKit Go.Deep

/-- A copy made by an append to nothing, whatever it is of. -/
theorem wpList_copy {w : World} {ops : Array Oper} {rest : List Oper} {o : Oper} {a : Act} {Q : Exit → Act → World → Prop} (t e : TypeId) (i0 : TypeInfo) (z : Value) (size bytes : Nat) (ht : Tryd.prog.underlying t = some (.slice e)) (hi : Tryd.prog.info? e = some i0) (hz0 : i0.zero = some z)
    (hz1 : i0.size = size) (hz2 : i0.bytes = bytes) (hzs : z.cells.size = size) (hsz : 0 < size) (hgd : o.guard = none) (x : Operand)
    (ho : o.op = .call { callee := .builtin .append, args := #[.const (.slice none 0 0), x], argTypes := #[t, t] }) (y : Option Addr) (m c : Nat) (news : List Value) (hx : a.eval x = .slice y m c) (hnil : y = none → m = 0) (hl : news.length = m * size)
    (hn : ∀ ad, y = some ad → ∀ j u, news[j]? = some u → w.cell? (ad.add j) = some u) (h1 : ∀ u ∈ news, u.oneCell' = true) (hm : m ≤ maxLen) (hb : (m + m / 4 + 192) * bytes ≤ 281474976710656)
    (hK : ∀ v' w', w'.ownsRow w.heap.size e size v' m news → w.grownBy w' none → wpList Tryd.prog ops Q rest (a.put o.dst v') w') : wpList Tryd.prog ops Q (o :: rest) a w := by
  refine wpList_plain hgd fun K hK' => ?_
  have hc : a.eval (.const (.slice none 0 0)) = .slice none 0 0 := rfl
  cases y with
  | none =>
    obtain rfl := hnil rfl
    have hn0 : news = [] := List.length_eq_zero_iff.1 (by rw [hl, Nat.zero_mul])
    subst hn0
    have hrun := run_append_nothing (P := Tryd.prog) w t t o.type e i0 ht hi none 0 0 (Nat.le_refl _) _ (Src.ofNil w ht c)
    unfold Oper.wp execOp
    simp only [ho, resolve, invoke, builtin, Sem.run_bind, Sem.run_pure, Result.andThen_ok, List.map_toArray, List.map_cons, List.map_nil, hx]
    rw [hc, hrun]
    exact hK' _ _ (hK _ w (World.ownsRow_nil _ _ _ _) ⟨rfl, rfl, rfl, Nat.le_refl _, fun k _ _ => rfl⟩)
  | some ad =>
    obtain ⟨v', w', hr, hown, hgr, _⟩ := run_append_own_wide (P := Tryd.prog) w w.heap.size t o.type e i0 z size bytes ht hi hz0 hz1 hz2 hzs hsz (.slice none 0 0) 0 [] (World.ownsRow_nil _ _ _ _) ad m c news hl (hn ad rfl) h1 (by omega) (by rw [Nat.zero_add]; exact hb) (Nat.le_refl _)
    unfold Oper.wp execOp
    simp only [ho, resolve, invoke, builtin, Sem.run_bind, Sem.run_pure, Result.andThen_ok, List.map_toArray, List.map_cons, List.map_nil, hx]
    rw [hc, hr]
    rw [Nat.zero_add, List.nil_append] at hown
    exact hK' _ _ (hK v' w' hown hgr)

theorem info_of_string2 : ∃ i, Tryd.prog.info? 9 = some i ∧ i.zero = some (.string ByteArray.empty) ∧ i.size = 1 ∧ i.bytes = 16 := info_parts info_string

theorem strs_news {w : World} {b off : Nat} {ms : List ByteArray} (q : ∀ i, i < ms.length → w.cell? ⟨b, off + i, none⟩ = some (.string (ms.getD i ByteArray.empty))) : ∀ j u, (ms.map Value.string)[j]? = some u → w.cell? ((⟨b, off, none⟩ : Addr).add j) = some u := by
  intro j u h
  rw [Go.WideShapes.add_plain]
  rw [List.getElem?_map] at h
  cases e : ms[j]? with
  | none => rw [e] at h; simp at h
  | some s =>
    rw [e] at h
    simp at h
    have hj : j < ms.length := by
      rcases Nat.lt_or_ge j ms.length with k | k
      · exact k
      · rw [List.getElem?_eq_none k] at e; simp at e
    rw [q j hj, List.getD_eq_getElem?_getD, e]
    simp [h]

theorem one_strs (xs : List ByteArray) : ∀ u ∈ xs.map Value.string, u.oneCell' = true := by
  intro u hu
  obtain ⟨x, _, rfl⟩ := List.mem_map.1 hu
  rfl

/-- A row of texts that the call owns is a slice of its own memory. -/
theorem rows_new {w : World} {B : Nat} {v : Value} {ss : List ByteArray} (h : w.ownsRow B 9 1 v ss.length (ss.map Value.string)) (hl : ss.length ≤ 8796093022208) (hb : ∀ s ∈ ss, s.size ≤ 140737488355328) :
    ∃ x c, v = .slice x ss.length c ∧ Strs w x c ss ∧ ∀ p, x = some p → B ≤ p.block := by
  have hc := fun (g : Nat) (hg : v.ownBlock = some g) => h.cells hg
  rcases h.2 with ⟨rfl, h4⟩ | ⟨g, cap, cur, rfl, hg, hh, hn, _⟩
  · have : ss = [] := List.length_eq_zero_iff.1 h4
    subst this
    exact ⟨none, 0, rfl, Strs.empty w, fun p q => by cases q⟩
  · refine ⟨_, cap, rfl, ⟨hn, hl, hb, Or.inr ⟨g, 0, rfl, ?_, fun i hi => ?_⟩⟩, fun p q => by cases q; exact hg⟩
    · rcases Nat.lt_or_ge g w.heap.size with q | q
      · exact q
      · rw [Array.getElem?_eq_none q] at hh; simp at hh
    · have := hc g rfl i (.string (ss.getD i ByteArray.empty)) (by rw [List.getElem?_map, List.getElem?_eq_getElem hi, List.getD_eq_getElem?_getD, List.getElem?_eq_getElem hi]; rfl)
      rw [Go.WideShapes.add_plain] at this
      exact this

theorem grown_below0 {w w' : World} (h : w.grownBy w' none) : Below w.heap.size w w' := (Below.refl _ w).grown h (Nat.le_refl _) (fun k hk => by cases hk)

set_option maxRecDepth 100000 in
theorem flist_bytes {x : Option Addr} {c l : Nat} (ms : List Int) (w : World) (h : Bys w x c ms) (hl : ms.length = l) :
    Calls Tryd.prog 89 #[.slice x l c] w fun e w' => ∃ z t, e = .returned (.slice z l t) ∧ Bys w' z t ms ∧ (z = none → t = 0) ∧ (∀ p, z = some p → w.heap.size ≤ p.block) ∧ Below w.heap.size w w' := by
  subst hl
  obtain ⟨i0, hi, hz0, hz1, hz2⟩ := info_of_byte
  have hlen := h.2.1
  have hbs := h.2.2.1
  have hnil : x = none → ms.length = 0 := fun e => by
    rcases h.2.2.2 with q | ⟨b, off, q, _⟩
    · rw [q]; rfl
    · rw [e] at q; cases q
  have hn : ∀ ad, x = some ad → ∀ j u, (ms.map (Value.int .u8))[j]? = some u → w.cell? (ad.add j) = some u := fun ad e => by
    rcases h.2.2.2 with q | ⟨b, off, q, _, q2⟩
    · subst q; simp
    · rw [e] at q; cases q; exact bys_news q2
  have H1 := hid hnil
  have H2 := hid hn
  clear hnil hn h
  go_enter Tryd.func89, Tryd.ntmps89
  go_wp2_with (at_builtin; refine wpList_copy 22 5 i0 (.int .u8 0) 1 1 Tryd.underlying22 hi hz0 hz1 hz2 rfl (by decide) rfl _ rfl x ms.length c (ms.map (Value.int .u8)) rfl H1.out (by simp) H2.out (one_cells ms) (by unfold maxLen; omega) (by omega) ?_)
  intro v1 w1 hown hg
  obtain ⟨z, r, rfl, hs, hzr, hf⟩ := rowb_new (Rowb.of (xs := ms) hown (by simp) rfl) hlen hbs
  have B1 := hid (grown_below0 hg)
  have S1 := hid hs
  have F1 := hid hf
  have Z1 := hid hzr
  clear hown hg hs hf hzr
  go_wp2_with fail
  go_ret
  exact ⟨z, r, rfl, S1.out, Z1.out, F1.out, B1.out⟩

set_option maxRecDepth 100000 in
theorem flist_strs {x : Option Addr} {c l : Nat} (ss : List ByteArray) (w : World) (h : Strs w x c ss) (hl : ss.length = l) :
    Calls Tryd.prog 88 #[.slice x l c] w fun e w' => ∃ z t, e = .returned (.slice z l t) ∧ Strs w' z t ss ∧ (∀ p, z = some p → w.heap.size ≤ p.block) ∧ Below w.heap.size w w' := by
  subst hl
  obtain ⟨i0, hi, hz0, hz1, hz2⟩ := info_of_string2
  have hlen := h.2.1
  have hbs := h.2.2.1
  have hnil : x = none → ss.length = 0 := fun e => by
    rcases h.2.2.2 with q | ⟨b, off, q, _⟩
    · rw [q]; rfl
    · rw [e] at q; cases q
  have hn : ∀ ad, x = some ad → ∀ j u, (ss.map Value.string)[j]? = some u → w.cell? (ad.add j) = some u := fun ad e => by
    rcases h.2.2.2 with q | ⟨b, off, q, _, q2⟩
    · subst q; simp
    · rw [e] at q; cases q; exact strs_news q2
  have H1 := hid hnil
  have H2 := hid hn
  clear hnil hn h
  go_enter Tryd.func88, Tryd.ntmps88
  go_wp2_with (at_builtin; refine wpList_copy 60 9 i0 (.string ByteArray.empty) 1 16 Tryd.underlying60 hi hz0 hz1 hz2 rfl (by decide) rfl _ rfl x ss.length c (ss.map Value.string) rfl H1.out (by simp) H2.out (one_strs ss) (by unfold maxLen; omega) (by omega) ?_)
  intro v1 w1 hown hg
  obtain ⟨z, r, rfl, hs, hf⟩ := rows_new hown hlen hbs
  have B1 := hid (grown_below0 hg)
  have S1 := hid hs
  have F1 := hid hf
  clear hown hg hs hf
  go_wp2_with fail
  go_ret
  exact ⟨z, r, rfl, S1.out, F1.out, B1.out⟩

theorem results_frec (tmps : Array Value) (w : World) (b : Nat) (v0 v1 v2 v3 v4 : Value) (hp : tmps.getD 2 undef = .pointer (some ⟨b, 0, none⟩)) (hb : Bl 67 w b #[v0, v1, v2, v3, v4]) :
    (results Tryd.f74 tmps).run Tryd.prog w = .ok (.agg #[v0, v1, v2, v3, v4]) w := by
  have c0 : w.cell? ⟨b, 0, none⟩ = some v0 := hb.cell (i := 0) rfl
  have c1 : w.cell? ⟨b, 1, none⟩ = some v1 := hb.cell (i := 1) rfl
  have c2 : w.cell? ⟨b, 2, none⟩ = some v2 := hb.cell (i := 2) rfl
  have c3 : w.cell? ⟨b, 3, none⟩ = some v3 := hb.cell (i := 3) rfl
  have c4 : w.cell? ⟨b, 4, none⟩ = some v4 := hb.cell (i := 4) rfl
  have hp' : tmps[2]?.getD undef = .pointer (some ⟨b, 0, none⟩) := by simpa using hp
  simp [results, Tryd.results74, go_sem, hp', c0, c1, c2, c3, c4]

theorem results_fque (tmps : Array Value) (w : World) (b : Nat) (v0 v1 v2 : Value) (hp : tmps.getD 2 undef = .pointer (some ⟨b, 0, none⟩)) (hb : Bl 65 w b #[v0, v1, v2]) :
    (results Tryd.f72 tmps).run Tryd.prog w = .ok (.agg #[v0, v1, v2]) w := by
  have c0 : w.cell? ⟨b, 0, none⟩ = some v0 := hb.cell (i := 0) rfl
  have c1 : w.cell? ⟨b, 1, none⟩ = some v1 := hb.cell (i := 1) rfl
  have c2 : w.cell? ⟨b, 2, none⟩ = some v2 := hb.cell (i := 2) rfl
  have hp' : tmps[2]?.getD undef = .pointer (some ⟨b, 0, none⟩) := by simpa using hp
  simp [results, Tryd.results72, go_sem, hp', c0, c1, c2]

/-- A copy of a record: in memory of its own. -/
def RCopy (r : Rn) (w : World) (e : Ending) (w' : World) : Prop :=
  ∃ y s z t, e = .returned (.agg #[.slice y r.N.length s, .int .i64 r.ty, .int .i64 r.cl, .int .i64 r.ttl, .slice z r.D.length t]) ∧ Strs w' y s r.N ∧ Bys w' z t r.D ∧ (z = none → t = 0) ∧ Below w.heap.size w w' ∧ (∀ a, y = some a → w.heap.size ≤ a.block) ∧ ∀ a, z = some a → w.heap.size ≤ a.block

def QCopy (q : Qn) (w : World) (e : Ending) (w' : World) : Prop :=
  ∃ y s, e = .returned (.agg #[.slice y q.N.length s, .int .i64 q.ty, .int .i64 q.cl]) ∧ Strs w' y s q.N ∧ Below w.heap.size w w' ∧ ∀ a, y = some a → w.heap.size ≤ a.block

theorem Bl.two (t t2 : TypeId) (w : World) (C D : Array Value) : Bl t ((w.alloc (.cells C t)).alloc (.cells D t2)) w.heap.size C ∧ Bl t2 ((w.alloc (.cells C t)).alloc (.cells D t2)) (w.heap.size + 1) D ∧ Below w.heap.size w ((w.alloc (.cells C t)).alloc (.cells D t2)) :=
  ⟨(Bl.new t w C).below ((Below.refl _ _).alloc (Nat.le_refl _) _), by have := Bl.new t2 (w.alloc (.cells C t)) D; simpa using this, ((Below.refl _ w).alloc (Nat.le_refl _) _).alloc (by simp) _⟩

set_option maxHeartbeats 1000000 in
set_option maxRecDepth 100000 in
theorem frecord_any {y z : Option Addr} {s t : Nat} (r : Rn) (w : World) (hN : Strs w y s r.N) (hD : Bys w z t r.D) :
    Calls Tryd.prog 74 #[.agg #[.slice y r.N.length s, .int .i64 r.ty, .int .i64 r.cl, .int .i64 r.ttl, .slice z r.D.length t]] w (RCopy r w) := by
  obtain ⟨k1, k2, k3⟩ := Bl.two 67 67 w #[.slice y r.N.length s, .int .i64 r.ty, .int .i64 r.cl, .int .i64 r.ttl, .slice z r.D.length t] #[.slice none 0 0, .int .i64 0, .int .i64 0, .int .i64 0, .slice none 0 0]
  have HN := hid (hN.below k3)
  have HD := hid (hD.below k3)
  have HD0 := hid hD
  have K1 := hid k1
  have K2 := hid k2
  have K3 := hid k3
  clear hN hD k1 k2 k3
  go_enter Tryd.func74, Tryd.ntmps74
  go_wp2_with fail
  refine (flist_strs r.N _ HN.out rfl).mono ?_
  rintro e w1 ⟨y1, s1, rfl, h1, f1, b1⟩
  have L1 := hid (K1.out.below b1)
  have L2 := hid (K2.out.below b1)
  have L3 := hid (grown_on K3.out b1)
  have HD1 := hid (HD.out.below b1)
  have HN1 := hid h1
  have F1 : Hid (∀ p, y1 = some p → w.heap.size + 2 ≤ p.block) := hid (fun p hp => by have := f1 p hp; simpa using this)
  have c0 : w1.cell? ⟨w.heap.size, 0, none⟩ = _ := L1.out.cell (i := 0) rfl
  have z0 := L1.out.frozen 0
  clear h1 f1 b1 K1 K2 K3 HN HD
  go_upto_region 2 with fail
  have M1 : Bl 67 (w1.setCell ⟨w.heap.size, 0, none⟩ (.slice y1 r.N.length s1)) w.heap.size #[.slice y1 r.N.length s1, .int .i64 r.ty, .int .i64 r.cl, .int .i64 r.ttl, .slice z r.D.length t] := L1.out.set 0 _
  have M2 : Bl 67 (w1.setCell ⟨w.heap.size, 0, none⟩ (.slice y1 r.N.length s1)) (w.heap.size + 1) _ := L2.out.far (p := ⟨w.heap.size, 0, none⟩) (by simp) (.slice y1 r.N.length s1)
  have M3 := L3.out.setCell (p := ⟨w.heap.size, 0, none⟩) (Nat.le_refl _) (.slice y1 r.N.length s1)
  have HN2 : Strs (w1.setCell ⟨w.heap.size, 0, none⟩ (.slice y1 r.N.length s1)) y1 s1 r.N := HN1.out.far (fun a e => by have := F1.out a e; simp; omega) _
  have HD2 := hid (HD0.out.below M3)
  have c4 : (w1.setCell ⟨w.heap.size, 0, none⟩ (.slice y1 r.N.length s1)).cell? ⟨w.heap.size, 4, none⟩ = _ := M1.cell (i := 4) rfl
  generalize w1.setCell ⟨w.heap.size, 0, none⟩ (.slice y1 r.N.length s1) = w2 at *
  have N1 := hid M1
  have N2 := hid M2
  have N3 := hid M3
  have HN3 := hid HN2
  clear M1 M2 M3 HN2 HD1 L1 L2 L3 HN1 c0 z0
  go_wp2_with fail
  refine (flist_bytes r.D _ HD2.out rfl).mono ?_
  rintro e w3 ⟨z1, t1, rfl, h2, hzt, f2, b2⟩
  have hs := N2.out.lt
  have O1 := N1.out.below b2
  have O2 := N2.out.below b2
  have O3 := grown_on N3.out b2
  have O4 := HN3.out.below b2
  have F2 : Hid (∀ p, z1 = some p → w.heap.size + 2 ≤ p.block) := hid (fun p hp => by have := f2 p hp; omega)
  have ZT := hid hzt
  have d4 : w3.cell? ⟨w.heap.size, 4, none⟩ = _ := O1.cell (i := 4) rfl
  have z4 := O1.frozen 4
  have P0 := hid O1
  have P1 : Hid (Bl 67 (w3.setCell ⟨w.heap.size, 4, none⟩ (.slice z1 r.D.length t1)) w.heap.size #[.slice y1 r.N.length s1, .int .i64 r.ty, .int .i64 r.cl, .int .i64 r.ttl, .slice z1 r.D.length t1]) := hid (O1.set 4 _)
  have P2 : Hid (Bl 67 (w3.setCell ⟨w.heap.size, 4, none⟩ (.slice z1 r.D.length t1)) (w.heap.size + 1) #[.slice none 0 0, .int .i64 0, .int .i64 0, .int .i64 0, .slice none 0 0]) := hid (O2.far (p := ⟨w.heap.size, 4, none⟩) (by simp) _)
  have P3 := hid (O3.setCell (p := ⟨w.heap.size, 4, none⟩) (Nat.le_refl _) (.slice z1 r.D.length t1))
  have P4 : Hid (Strs (w3.setCell ⟨w.heap.size, 4, none⟩ (.slice z1 r.D.length t1)) y1 s1 r.N) := hid (O4.far (fun a e => by have := F1.out a e; simp; omega) _)
  have P5 : Hid (Bys (w3.setCell ⟨w.heap.size, 4, none⟩ (.slice z1 r.D.length t1)) z1 t1 r.D) := hid (h2.far (fun a e => by have := F2.out a e; simp; omega) _)
  clear O1 O2 O3 O4 h2 hzt f2 b2 N1 N2 N3 HN3 HD2 c4 hs
  go_upto_region 3 with fail
  generalize w3.setCell ⟨w.heap.size, 4, none⟩ (.slice z1 r.D.length t1) = w4 at *
  have g0 : w4.cell? ⟨w.heap.size, 0, none⟩ = _ := P1.out.cell (i := 0) rfl
  have g1 : w4.cell? ⟨w.heap.size, 1, none⟩ = _ := P1.out.cell (i := 1) rfl
  have g2 : w4.cell? ⟨w.heap.size, 2, none⟩ = _ := P1.out.cell (i := 2) rfl
  have g3 : w4.cell? ⟨w.heap.size, 3, none⟩ = _ := P1.out.cell (i := 3) rfl
  have g4 : w4.cell? ⟨w.heap.size, 4, none⟩ = _ := P1.out.cell (i := 4) rfl
  have j0 : w4.cell? ⟨w.heap.size + 1, 0, none⟩ = _ := P2.out.cell (i := 0) rfl
  have j1 : w4.cell? ⟨w.heap.size + 1, 1, none⟩ = _ := P2.out.cell (i := 1) rfl
  have j2 : w4.cell? ⟨w.heap.size + 1, 2, none⟩ = _ := P2.out.cell (i := 2) rfl
  have j3 : w4.cell? ⟨w.heap.size + 1, 3, none⟩ = _ := P2.out.cell (i := 3) rfl
  have j4 : w4.cell? ⟨w.heap.size + 1, 4, none⟩ = _ := P2.out.cell (i := 4) rfl
  have q0 := P2.out.frozen 0
  have q1 := P2.out.frozen 1
  have q2 := P2.out.frozen 2
  have q3 := P2.out.frozen 3
  have q4 := P2.out.frozen 4
  clear d4 z4 P0
  go_wp2_with fail
  refine bodyPost_ret (results_frec _ _ (w.heap.size + 1) _ _ _ _ _ rfl (P2.out.put5 _ _ _ _ _)) rfl ?_
  exact ⟨y1, s1, z1, t1, rfl, P4.out.far5 (fun a e => by have := F1.out a e; omega) _ _ _ _ _, P5.out.far5 (fun a e => by have := F2.out a e; omega) _ _ _ _ _, ZT.out, below_put5 P3.out (by omega) _ _ _ _ _, fun a e => by have := F1.out a e; omega, fun a e => by have := F2.out a e; omega⟩

set_option maxHeartbeats 1000000 in
set_option maxRecDepth 100000 in
theorem fquestion_any {y : Option Addr} {s : Nat} (r : Qn) (w : World) (hN : Strs w y s r.N) :
    Calls Tryd.prog 72 #[.agg #[.slice y r.N.length s, .int .i64 r.ty, .int .i64 r.cl]] w (QCopy r w) := by
  obtain ⟨k1, k2, k3⟩ := Bl.two 65 65 w #[.slice y r.N.length s, .int .i64 r.ty, .int .i64 r.cl] #[.slice none 0 0, .int .i64 0, .int .i64 0]
  have HN := hid (hN.below k3)
  have K1 := hid k1
  have K2 := hid k2
  have K3 := hid k3
  clear hN k1 k2 k3
  go_enter Tryd.func72, Tryd.ntmps72
  go_wp2_with fail
  refine (flist_strs r.N _ HN.out rfl).mono ?_
  rintro e w1 ⟨y1, s1, rfl, h1, f1, b1⟩
  have L1 := hid (K1.out.below b1)
  have L2 := hid (K2.out.below b1)
  have L3 := hid (grown_on K3.out b1)
  have HN1 := hid h1
  have F1 : Hid (∀ p, y1 = some p → w.heap.size + 2 ≤ p.block) := hid (fun p hp => by have := f1 p hp; simpa using this)
  have c0 : w1.cell? ⟨w.heap.size, 0, none⟩ = _ := L1.out.cell (i := 0) rfl
  have z0 := L1.out.frozen 0
  clear h1 f1 b1 K1 K2 K3 HN
  go_upto_region 2 with fail
  have P1 : Hid (Bl 65 (w1.setCell ⟨w.heap.size, 0, none⟩ (.slice y1 r.N.length s1)) w.heap.size #[.slice y1 r.N.length s1, .int .i64 r.ty, .int .i64 r.cl]) := hid (L1.out.set 0 _)
  have P2 : Hid (Bl 65 (w1.setCell ⟨w.heap.size, 0, none⟩ (.slice y1 r.N.length s1)) (w.heap.size + 1) #[.slice none 0 0, .int .i64 0, .int .i64 0]) := hid (L2.out.far (p := ⟨w.heap.size, 0, none⟩) (by simp) (.slice y1 r.N.length s1))
  have P3 := hid (L3.out.setCell (p := ⟨w.heap.size, 0, none⟩) (Nat.le_refl _) (.slice y1 r.N.length s1))
  have P4 : Hid (Strs (w1.setCell ⟨w.heap.size, 0, none⟩ (.slice y1 r.N.length s1)) y1 s1 r.N) := hid (HN1.out.far (fun a e => by have := F1.out a e; simp; omega) _)
  generalize w1.setCell ⟨w.heap.size, 0, none⟩ (.slice y1 r.N.length s1) = w4 at *
  clear L1 L2 L3 HN1 c0 z0
  have g0 : w4.cell? ⟨w.heap.size, 0, none⟩ = _ := P1.out.cell (i := 0) rfl
  have g1 : w4.cell? ⟨w.heap.size, 1, none⟩ = _ := P1.out.cell (i := 1) rfl
  have g2 : w4.cell? ⟨w.heap.size, 2, none⟩ = _ := P1.out.cell (i := 2) rfl
  have j0 : w4.cell? ⟨w.heap.size + 1, 0, none⟩ = _ := P2.out.cell (i := 0) rfl
  have j1 : w4.cell? ⟨w.heap.size + 1, 1, none⟩ = _ := P2.out.cell (i := 1) rfl
  have j2 : w4.cell? ⟨w.heap.size + 1, 2, none⟩ = _ := P2.out.cell (i := 2) rfl
  have q0 := P2.out.frozen 0
  have q1 := P2.out.frozen 1
  have q2 := P2.out.frozen 2
  go_wp2_with fail
  refine bodyPost_ret (results_fque _ _ (w.heap.size + 1) _ _ _ rfl (P2.out.put3 _ _ _)) rfl ?_
  exact ⟨y1, s1, rfl, P4.out.far3 (fun a e => by have := F1.out a e; omega) _ _ _, below_put3 P3.out (by omega) _ _ _, fun a e => by have := F1.out a e; omega⟩

end Go.Proofs.YtbbgabdiikdjpaaDoor

namespace Go.Proofs.YtbbgabdiikdjpaaDoor
open Go.RowKit Go.Deep

structure On where
  code : Int
  D : List Int

/-- What is wrong with options, one by one. -/
def optE : List On → Int
  | [] => 0
  | o :: os => if ¬ (0 ≤ o.code ∧ o.code ≤ 65535) then 6 else if 65535 < o.D.length then 7 else optE os

/-- How many bytes options have. -/
def optSize : List On → Nat
  | [] => 0
  | o :: os => 4 + o.D.length + optSize os

/-- What is wrong with options as the data of a record. -/
def dataE (os : List On) : Int := if ¬ optE os = 0 then optE os else if 65535 < optSize os then 7 else 0

/-- Their bytes. -/
def optB (os : List On) : List Int := os.flatMap fun o => twoN o.code ++ twoN (o.D.length : Int) ++ o.D

theorem optE_cons (o : On) (os : List On) : optE (o :: os) = if ¬ (0 ≤ o.code ∧ o.code ≤ 65535) then 6 else if 65535 < o.D.length then 7 else optE os := rfl

theorem optE_append (a b : List On) (h : optE a = 0) : optE (a ++ b) = optE b := by
  induction a with
  | nil => rfl
  | cons o os ih =>
    rw [List.cons_append]
    rw [optE_cons] at h ⊢
    by_cases c1 : ¬ (0 ≤ o.code ∧ o.code ≤ 65535)
    · rw [if_pos c1] at h; cases h
    · rw [if_neg c1] at h ⊢
      by_cases c2 : 65535 < o.D.length
      · rw [if_pos c2] at h; cases h
      · rw [if_neg c2] at h ⊢
        exact ih h

theorem optE_take {os : List On} {i : Nat} (hi : i < os.length) (h : optE (os.take i) = 0) : optE os = optE (os[i] :: os.drop (i + 1)) := by
  conv => lhs; rw [← List.take_append_drop i os]
  rw [optE_append _ _ h, List.drop_eq_getElem_cons hi]

theorem optE_next {os : List On} {i : Nat} (hi : i < os.length) (h : optE (os.take i) = 0) (h1 : 0 ≤ os[i].code ∧ os[i].code ≤ 65535) (h2 : os[i].D.length ≤ 65535) : optE (os.take (i + 1)) = 0 := by
  rw [List.take_succ_eq_append_getElem hi, optE_append _ _ h]
  unfold optE
  rw [if_neg (by simpa using h1), if_neg (by omega)]
  rfl

theorem optSize_append (a b : List On) : optSize (a ++ b) = optSize a + optSize b := by
  induction a with
  | nil => simp [optSize]
  | cons o os ih => rw [List.cons_append]; simp only [optSize, ih]; omega

theorem optSize_next {os : List On} {i : Nat} (hi : i < os.length) : optSize (os.take (i + 1)) = optSize (os.take i) + (4 + os[i].D.length) := by
  rw [List.take_succ_eq_append_getElem hi, optSize_append]
  simp [optSize]

theorem optSize_bound {os : List On} (h : optE os = 0) : optSize os ≤ os.length * 65539 := by
  induction os with
  | nil => simp [optSize]
  | cons o os ih =>
    unfold optE at h
    by_cases c1 : ¬ (0 ≤ o.code ∧ o.code ≤ 65535)
    · rw [if_pos c1] at h; cases h
    · rw [if_neg c1] at h
      by_cases c2 : 65535 < o.D.length
      · rw [if_pos c2] at h; cases h
      · rw [if_neg c2] at h
        have := ih h
        simp only [optSize, List.length_cons]
        omega

theorem optB_len (os : List On) : (optB os).length = optSize os := by
  induction os with
  | nil => rfl
  | cons o os ih =>
    have : optB (o :: os) = (twoN o.code ++ twoN (o.D.length : Int) ++ o.D) ++ optB os := by simp [optB]
    rw [this, List.length_append, ih]
    simp [optSize, twoN]
    omega

theorem optB_next {os : List On} {i : Nat} (hi : i < os.length) : optB (os.take (i + 1)) = optB (os.take i) ++ twoN os[i].code ++ twoN (os[i].D.length : Int) ++ os[i].D := by
  unfold optB
  rw [List.take_succ_eq_append_getElem hi, List.flatMap_append, List.flatMap_cons, List.flatMap_nil, List.append_nil]
  simp only [List.append_assoc]

theorem optB_take_len {os : List On} (i : Nat) : (optB (os.take i)).length ≤ optSize os := by
  rw [optB_len]
  conv => rhs; rw [← List.take_append_drop i os]
  rw [optSize_append]; omega

/-- An option stands at a place of a block. -/
def OCell (w : World) (B b o : Nat) (r : On) : Prop :=
  ∃ z t, w.cell? ⟨b, o, none⟩ = some (.int .i64 r.code) ∧ w.cell? ⟨b, o + 1, none⟩ = some (.slice z r.D.length t) ∧ Bys w z t r.D ∧ (z = none → t = 0) ∧ ∀ a, z = some a → B ≤ a.block

/-- A slice leads to these options. -/
def Ops (w : World) (B : Nat) (x : Option Addr) (c : Nat) (os : List On) : Prop :=
  os.length ≤ c ∧ os.length ≤ 5000000000000 ∧ (os = [] ∨ ∃ b off, x = some ⟨b, off, none⟩ ∧ b < w.heap.size ∧ B ≤ b ∧ ∀ i (h : i < os.length), OCell w B b (off + i * 2) os[i])

theorem Ops.nil (w : World) (B : Nat) (x : Option Addr) (c : Nat) : Ops w B x c [] := ⟨Nat.zero_le _, by simp, Or.inl rfl⟩

theorem Ops.below {w w' : World} {B : Nat} {x : Option Addr} {c : Nat} {os : List On} (h : Ops w B x c os) (k : Below w.heap.size w w') : Ops w' B x c os := by
  obtain ⟨h1, h2, h3⟩ := h
  refine ⟨h1, h2, ?_⟩
  rcases h3 with h3 | ⟨b, off, hx, hb, hB, hc⟩
  · exact Or.inl h3
  · refine Or.inr ⟨b, off, hx, Nat.lt_of_lt_of_le hb k.size, hB, fun i hi => ?_⟩
    obtain ⟨z, t, q1, q2, q3, q4, q5⟩ := hc i hi
    exact ⟨z, t, by rw [k.cell (p := ⟨b, off + i * 2, none⟩) hb]; exact q1, by rw [k.cell (p := ⟨b, off + i * 2 + 1, none⟩) hb]; exact q2, q3.below k, q4, q5⟩

theorem Ops.at {w : World} {B : Nat} {x : Option Addr} {c : Nat} {os : List On} (h : Ops w B x c os) {i : Nat} (hi : i < os.length) : ∃ b off z t, x = some ⟨b, off, none⟩ ∧ b < w.heap.size ∧ w.cell? ⟨b, off + i * 2, none⟩ = some (.int .i64 os[i].code) ∧ w.cell? ⟨b, off + i * 2 + 1, none⟩ = some (.slice z os[i].D.length t) ∧ Bys w z t os[i].D ∧ (z = none → t = 0) := by
  rcases h.2.2 with h3 | ⟨b, off, hx, hb, _, hc⟩
  · rw [h3] at hi; simp at hi
  · obtain ⟨z, t, k1, k2, k3, k4, _⟩ := hc i hi
    exact ⟨b, off, z, t, hx, hb, k1, k2, k3, k4⟩

/-- What sizeOf answers. -/
def SizeP (os : List On) (w : World) (e : Ending) (w' : World) : Prop := e = .returned (.tuple #[.int .i64 (if optE os = 0 then (optSize os : Int) else 0), errV (optE os)]) ∧ Below w.heap.size w w'

theorem SizeP.bad {os : List On} {w w' : World} {k : Int} (h : optE os = k) (hk : ¬ k = 0) (b : Below w.heap.size w w') : SizeP os w (.returned (.tuple #[.int .i64 0, .iface 29 (.int .i64 k)])) w' := by
  subst h
  refine ⟨?_, b⟩
  rw [if_neg hk, errV_some hk]

theorem SizeP.good {os : List On} {w w' : World} (h : optE os = 0) (b : Below w.heap.size w w') : SizeP os w (.returned (.tuple #[.int .i64 (optSize os : Int), .nilIface])) w' := by
  refine ⟨?_, b⟩
  rw [if_pos h, h, errV_none]

set_option maxHeartbeats 1000000 in
set_option maxRecDepth 100000 in
theorem sizeOf_any {x : Option Addr} {c l bq : Nat} (os : List On) (w : World) (h : Ops w bq x c os) (hl : os.length = l) :
    Calls Tryd.prog 90 #[.slice x l c] w (SizeP os w) := by
  subst hl
  have hlen := h.2.1
  go_enter Tryd.func90, Tryd.ntmps90
  go_wp2_with fail
  go_loopw [4, 9] (fun vs vi wr => ∃ i : Nat, i ≤ os.length ∧ vs = .int .i64 (optSize (os.take i) : Int) ∧ vi = .int .i64 (i : Int) ∧ optE (os.take i) = 0 ∧ Below w.heap.size w wr) (fun _ i _ => os.length - (intOf i).toNat)
  case atStart => exact ⟨0, Nat.zero_le _, rfl, rfl, rfl, Below.refl _ _⟩
  case round =>
    obtain ⟨i, hi, rfl, rfl, hE, hbel⟩ := hrel
    have hsz := optSize_bound hE
    rw [List.length_take] at hsz
    by_cases ci : i < os.length
    · obtain ⟨b0, o0, z, t, rfl, hb0, e0, e1, q1, q2⟩ := (h.below hbel).at ci
      have ET := hid (optE_take ci hE)
      have NE := hid (optE_next ci hE)
      have NS := hid (optSize_next ci)
      have HE := hid hE
      have HB := hid hbel
      have hdl := q1.2.1
      generalize os[i] = o at *
      generalize optSize (os.take i) = sz at *
      have ci2 : (i : Int) < (os.length : Int) := by omega
      have BA := hid (grown_on hbel ((Below.refl wr.heap.size wr).alloc (Nat.le_refl _) (.cells #[.int .i64 o.code, .slice z o.D.length t] 106)))
      clear hE hbel q1 q2 h
      by_cases c1 : 0 ≤ o.code ∧ o.code ≤ 65535
      · by_cases c2 : 65535 < o.D.length
        · have c3 : (65535 : Int) < (o.D.length : Int) := by omega
          go_wp2_with fail
          refine (rfits_at true o.code 65535 _ (by simpa using c1)).mono ?_
          rintro e w1 ⟨rfl, rfl⟩
          go_wp2_with fail
          go_ret2
          exact SizeP.bad (by rw [ET.out, optE_cons, if_neg (by simpa using c1), if_pos c2]) (by decide) BA.out
        · have c3 : ¬ (65535 : Int) < (o.D.length : Int) := by omega
          go_wp2_with fail
          refine (rfits_at true o.code 65535 _ (by simpa using c1)).mono ?_
          rintro e w1 ⟨rfl, rfl⟩
          go_wp2_with fail
          exact ⟨⟨i + 1, by omega, by rw [NS.out]; go_num, by go_num, NE.out c1 (by omega), BA.out⟩, by simp [intOf]; omega⟩
      · go_wp2_with fail
        refine (rfits_at false o.code 65535 _ (by simpa using c1)).mono ?_
        rintro e w1 ⟨rfl, rfl⟩
        go_wp2_with fail
        go_ret2
        exact SizeP.bad (by rw [ET.out, optE_cons, if_pos c1]) (by decide) BA.out
    · have ei : i = os.length := by omega
      subst ei
      rw [List.take_of_length_le (Nat.le_refl _)] at hE
      have es : os.take os.length = os := List.take_of_length_le (Nat.le_refl _)
      have HE := hid hE
      have HB := hid hbel
      rw [es]
      clear hE hbel es
      go_wp2_with fail
      go_ret2
      exact SizeP.good HE.out HB.out

set_option maxHeartbeats 400000 in
set_option maxRecDepth 100000 in
theorem appendTwo_own (B : Nat) (v : Value) (xs : List Int) (n : Int) (w : World) (hown : Rowb w B v xs) (hl : xs.length ≤ 1000000) (hB : B ≤ w.heap.size) :
    Calls Tryd.prog 63 #[v, .int .i64 n] w fun e w' => ∃ v', e = .returned v' ∧ Rowb w' B v' (xs ++ twoN n) ∧ w.grownBy w' v.ownBlock ∧ (v'.ownBlock = v.ownBlock ∨ v'.ownBlock = some (w.heap.size + 1)) := by
  obtain ⟨i0, hi, hz0, hz1, hz2⟩ := info_of_byte
  unfold Rowb at hown
  go_enter Tryd.func63, Tryd.ntmps63
  go_wp2_with (at_builtin; refine wpList_append_own_at _ rfl _ _ 22 rfl B 5 i0 (.int .u8 0) 1 1 Tryd.underlying22 hi hz0 hz1 hz2 rfl (by decide) _ _ _ rfl (hown.alloc _) ⟨w.heap.size, 0, none⟩ 2 2 [.int .u8 (n / 256 % 256), .int .u8 (n % 256)] rfl rfl (cells_new w [.int .u8 (n / 256 % 256), .int .u8 (n % 256)] 5) (one_cells [n / 256 % 256, n % 256]) (by unfold maxLen; omega) (by omega) (by simp; omega) ?_)
  intro v1 w1 hown1 hgrow1 _ hloc
  have HL : Hid (v1.ownBlock = v.ownBlock ∨ v1.ownBlock = some (w.heap.size + 1)) := hid (by simpa using hloc)
  clear hloc
  go_wp2_with fail
  go_ret
  exact ⟨v1, rfl, Rowb.of hown1 (by simp [twoN]) (by simp [twoN]), grown_alloc hgrow1, HL.out⟩

theorem Bl.grown {t : TypeId} {w w' : World} {b : Nat} {C : Array Value} {row : Option Nat} (h : Bl t w b C) (g : w.grownBy w' row) (hn : some b ≠ row) : Bl t w' b C := by
  have := h.lt
  unfold Bl at h ⊢
  rw [g.block b this hn]
  exact h

/-- What dataOf answers where nothing is wrong: bytes in memory of its own. -/
def DataP (os : List On) (w : World) (e : Ending) (w' : World) : Prop :=
  ∃ v, e = .returned (.tuple #[v, .nilIface]) ∧ Rowb w' w.heap.size v (optB os) ∧ Below w.heap.size w w'

set_option maxHeartbeats 1000000 in
set_option maxRecDepth 100000 in
theorem dataOf_bad {x : Option Addr} {c l bq : Nat} (k : Int) (os : List On) (w : World) (h : Ops w bq x c os) (hl : os.length = l) (hk : dataE os = k) (h0 : ¬ k = 0) :
    Calls Tryd.prog 75 #[.slice x l c] w fun e w' => e = .returned (.tuple #[.slice none 0 0, .iface 29 (.int .i64 k)]) ∧ Below w.heap.size w w' := by
  by_cases c1 : optE os = 0
  · by_cases c2 : 65535 < optSize os
    · have e7 : k = 7 := by rw [← hk]; unfold dataE; rw [if_neg (by simpa using c1), if_pos c2]
      subst e7
      have c3 : (65535 : Int) < (optSize os : Int) := by omega
      have C1 := hid c1
      clear hk c1
      go_enter Tryd.func75, Tryd.ntmps75
      go_wp2_with fail
      refine (sizeOf_any os w h hl).mono ?_
      rintro e w1 ⟨rfl, b1⟩
      rw [if_pos C1.out, C1.out, errV_none]
      go_wp2_with fail
      go_ret2
      exact ⟨rfl, b1⟩
    · exfalso
      apply h0
      rw [← hk]; unfold dataE; rw [if_neg (by simpa using c1), if_neg c2]
  · have e7 : k = optE os := by rw [← hk]; unfold dataE; rw [if_pos c1]
    subst e7
    have C1 := hid c1
    clear hk c1
    go_enter Tryd.func75, Tryd.ntmps75
    go_wp2_with fail
    refine (sizeOf_any os w h hl).mono ?_
    rintro e w1 ⟨rfl, b1⟩
    rw [if_neg C1.out, errV_some C1.out]
    go_wp2_with fail
    go_ret2
    exact ⟨rfl, b1⟩

set_option maxHeartbeats 2000000 in
set_option maxRecDepth 100000 in
theorem dataOf_good {x : Option Addr} {c l bq : Nat} (os : List On) (w : World) (h : Ops w bq x c os) (hl : os.length = l) (hk : dataE os = 0) :
    Calls Tryd.prog 75 #[.slice x l c] w (DataP os w) := by
  subst hl
  have h0 : optE os = 0 ∧ optSize os ≤ 65535 := by
    unfold dataE at hk
    by_cases c1 : optE os = 0
    · rw [if_neg (by simpa using c1)] at hk
      by_cases c2 : 65535 < optSize os
      · rw [if_pos c2] at hk; cases hk
      · exact ⟨c1, by omega⟩
    · rw [if_pos c1] at hk; exact absurd hk c1
  obtain ⟨c1, c2⟩ := h0
  have c3 : ¬ (65535 : Int) < (optSize os : Int) := by omega
  have C1 := hid c1
  have hlen := h.2.1
  clear hk c1
  go_enter Tryd.func75, Tryd.ntmps75
  go_wp2_with fail
  refine (sizeOf_any os w h rfl).mono ?_
  rintro e w1 ⟨rfl, b1⟩
  rw [if_pos C1.out, C1.out, errV_none]
  have B1 := hid b1
  clear b1
  go_wp2_with fail
  go_loopw [6, 22] (fun v vi wr => ∃ i : Nat, i ≤ os.length ∧ vi = .int .i64 (i : Int) ∧ Rowb wr w.heap.size v (optB (os.take i)) ∧ Below w.heap.size w wr) (fun _ i _ => os.length - (intOf i).toNat)
  case atStart => exact ⟨0, Nat.zero_le _, rfl, World.ownsRow_nil _ _ _ _, B1.out⟩
  case round =>
    obtain ⟨i, hi, rfl, hrow, hbel⟩ := hrel
    have hbl := optB_take_len (os := os) i
    by_cases ci : i < os.length
    · obtain ⟨b0, o0, z, t, rfl, hb0, p0, p1, q1, q2⟩ := h.at ci
      have hbl2 := optB_take_len (os := os) (i + 1)
      have e0 := (hbel.cell (p := ⟨b0, o0 + i * 2, none⟩) hb0).trans p0
      have e1 := (hbel.cell (p := ⟨b0, o0 + i * 2 + 1, none⟩) hb0).trans p1
      have NB := hid (optB_next ci)
      rw [NB.out] at hbl2
      simp only [List.length_append, two_len] at hbl2
      generalize os[i] = o at *
      generalize optB (os.take i) = X at *
      have ci2 : (i : Int) < (os.length : Int) := by omega
      have hw : w.heap.size ≤ wr.heap.size := hbel.size
      have BA := hid ((Below.refl wr.heap.size wr).alloc (Nat.le_refl _) (.cells #[.int .i64 o.code, .slice z o.D.length t] 106))
      have KO := hid (Bl.new 106 wr #[.int .i64 o.code, .slice z o.D.length t])
      have R0 := hid hrow
      have HB := hid hbel
      have Q1 := hid q1
      have Q2 := hid q2
      have ho : ∀ g, u6.ownBlock = some g → g < wr.heap.size := fun g hg => (World.ownsRow.lt hrow g hg).2
      have HO := hid ho
      clear p0 p1 q1 q2 hrow hbel h ho B1
      go_wp2_with fail
      refine (appendTwo_own w.heap.size _ X o.code _ (owns_stay R0.out BA.out) (by omega) (by simp; omega)).mono ?_
      rintro e w2 ⟨v2, rfl, r2, g2, l2⟩
      have n2 : some wr.heap.size ≠ u6.ownBlock := fun q => by have := HO.out _ q.symm; omega
      have K2 := hid (KO.out.grown g2 n2)
      have B2 := hid ((grown_on HB.out BA.out).grown g2 (by simp; omega) (fun k hk => (World.ownsRow.lt (owns_stay R0.out BA.out) k hk).1))
      have s2 : wr.heap.size + 1 ≤ w2.heap.size := by have := g2.size; simpa using this
      have L2 : Hid (some wr.heap.size ≠ v2.ownBlock) := hid (by
        rcases l2 with q | q
        · rw [q]; exact n2
        · rw [q]; simp; omega)
      have R2 := hid r2
      have d1 : w2.cell? ⟨wr.heap.size, 1, none⟩ = _ := K2.out.cell (i := 1) rfl
      clear r2 g2 l2 n2 e0 e1
      go_wp2_with fail
      refine (appendTwo_own w.heap.size _ (X ++ twoN o.code) (o.D.length : Int) _ R2.out (by simp [twoN]; omega) (by omega)).mono ?_
      rintro e w3 ⟨v3, rfl, r3, g3, l3⟩
      have K3 := hid (K2.out.grown g3 L2.out)
      have B3 := hid (B2.out.grown g3 (by omega) (fun k hk => (World.ownsRow.lt R2.out k hk).1))
      have s3 : wr.heap.size + 1 ≤ w3.heap.size := Nat.le_trans s2 g3.size
      have R3 := hid r3
      have d2 : w3.cell? ⟨wr.heap.size, 1, none⟩ = _ := K3.out.cell (i := 1) rfl
      clear r3 g3 l3 d1
      go_wp2_with (at_builtin; refine wpList_append_bys rfl _ _ rfl rfl rfl R3.out (Q1.out.below B3.out) (by simp [twoN]; omega) (by omega) ?_)
      intro v4 w4 r4 g4
      have R4 : Hid (Rowb w4 w.heap.size v4 (optB (os.take (i + 1)))) := hid (by rw [NB.out]; simpa only [List.append_assoc] using r4)
      have B4 := hid (B3.out.grown g4 (by omega) (fun k hk => (World.ownsRow.lt R3.out k hk).1))
      clear r4 g4 d2
      go_wp2_with fail
      exact ⟨⟨i + 1, by omega, by go_num, R4.out, B4.out⟩, by simp [intOf]; omega⟩
    · have ei : i = os.length := by omega
      subst ei
      have R0 : Hid (Rowb wr w.heap.size u6 (optB os)) := hid (by rw [List.take_of_length_le (Nat.le_refl _)] at hrow; exact hrow)
      have HB := hid hbel
      clear hrow hbel
      go_wp2_with fail
      go_ret2
      exact ⟨_, rfl, R0.out, HB.out⟩

end Go.Proofs.YtbbgabdiikdjpaaDoor

namespace Go.Proofs.YtbbgabdiikdjpaaDoor
open Go.RowKit Go.Deep

structure Ot where
  size : Int
  code : Int
  ver : Int
  dO : Bool
  z : Int
  os : List On

/-- Its numbers may be. -/
def OtIn (o : Ot) : Prop := (0 ≤ o.size ∧ o.size ≤ 65535) ∧ (0 ≤ o.code ∧ o.code ≤ 255) ∧ (0 ≤ o.ver ∧ o.ver ≤ 255) ∧ (0 ≤ o.z ∧ o.z ≤ 32767)

instance (o : Ot) : Decidable (OtIn o) := by unfold OtIn; infer_instance

/-- What is wrong with what a message is to tell. -/
def otE (o : Ot) : Int := if ¬ OtIn o then 6 else dataE o.os

def ttlN (o : Ot) : Int := o.code * 16777216 + o.ver * 65536 + o.z + (if o.dO = true then 32768 else 0)

/-- The record that has it. -/
def otR (o : Ot) : Rn := ⟨[], 41, o.size, ttlN o, optB o.os⟩

theorem results_recof (tmps : Array Value) (w : World) (b : Nat) (v0 v1 v2 v3 v4 : Value) (hp : tmps.getD 2 undef = .pointer (some ⟨b, 0, none⟩)) (hb : Bl 67 w b #[v0, v1, v2, v3, v4]) :
    (results Tryd.f50 tmps).run Tryd.prog w = .ok (.tuple #[.agg #[v0, v1, v2, v3, v4], tmps.getD 3 undef]) w := by
  have c0 : w.cell? ⟨b, 0, none⟩ = some v0 := hb.cell (i := 0) rfl
  have c1 : w.cell? ⟨b, 1, none⟩ = some v1 := hb.cell (i := 1) rfl
  have c2 : w.cell? ⟨b, 2, none⟩ = some v2 := hb.cell (i := 2) rfl
  have c3 : w.cell? ⟨b, 3, none⟩ = some v3 := hb.cell (i := 3) rfl
  have c4 : w.cell? ⟨b, 4, none⟩ = some v4 := hb.cell (i := 4) rfl
  have hp' : tmps[2]?.getD undef = .pointer (some ⟨b, 0, none⟩) := by simpa using hp
  simp [results, Tryd.results50, go_sem, hp', c0, c1, c2, c3, c4]

set_option maxHeartbeats 2000000 in
set_option maxRecDepth 100000 in
theorem recordOf_range {x : Option Addr} {c : Nat} (o : Ot) (w : World) (h : ¬ OtIn o) :
    Calls Tryd.prog 50 #[.agg #[.int .i64 o.size, .int .i64 o.code, .int .i64 o.ver, .bool o.dO, .int .i64 o.z, .slice x o.os.length c]] w fun e w' => e = .returned (.tuple #[.agg #[.slice none 0 0, .int .i64 0, .int .i64 0, .int .i64 0, .slice none 0 0], .iface 29 (.int .i64 6)]) ∧ Below w.heap.size w w' := by
  obtain ⟨k1, k2, k3⟩ := Bl.two 46 67 w #[.int .i64 o.size, .int .i64 o.code, .int .i64 o.ver, .bool o.dO, .int .i64 o.z, .slice x o.os.length c] #[.slice none 0 0, .int .i64 0, .int .i64 0, .int .i64 0, .slice none 0 0]
  have K2 := hid k2
  have K3 := hid k3
  clear k1 k2 k3
  by_cases c1 : 0 ≤ o.size ∧ o.size ≤ 65535
  · by_cases c2 : 0 ≤ o.code ∧ o.code ≤ 255
    · by_cases c3 : 0 ≤ o.ver ∧ o.ver ≤ 255
      · have c4 : ¬ (0 ≤ o.z ∧ o.z ≤ 32767) := fun q => h ⟨c1, c2, c3, q⟩
        clear h
        go_enter Tryd.func50, Tryd.ntmps50
        go_wp2_with fail
        refine (rfits_at true o.size 65535 _ (by simpa using c1)).mono ?_
        rintro e w1 ⟨rfl, rfl⟩
        go_wp2_with fail
        refine (rfits_at true o.code 255 _ (by simpa using c2)).mono ?_
        rintro e w1 ⟨rfl, rfl⟩
        go_wp2_with fail
        refine (rfits_at true o.ver 255 _ (by simpa using c3)).mono ?_
        rintro e w1 ⟨rfl, rfl⟩
        go_wp2_with fail
        refine (rfits_at false o.z 32767 _ (by simpa using c4)).mono ?_
        rintro e w1 ⟨rfl, rfl⟩
        go_wp2_with fail
        refine bodyPost_ret (results_recof _ _ (w.heap.size + 1) _ _ _ _ _ rfl K2.out) rfl ?_
        exact ⟨rfl, K3.out⟩
      · clear h
        go_enter Tryd.func50, Tryd.ntmps50
        go_wp2_with fail
        refine (rfits_at true o.size 65535 _ (by simpa using c1)).mono ?_
        rintro e w1 ⟨rfl, rfl⟩
        go_wp2_with fail
        refine (rfits_at true o.code 255 _ (by simpa using c2)).mono ?_
        rintro e w1 ⟨rfl, rfl⟩
        go_wp2_with fail
        refine (rfits_at false o.ver 255 _ (by simpa using c3)).mono ?_
        rintro e w1 ⟨rfl, rfl⟩
        go_wp2_with fail
        refine bodyPost_ret (results_recof _ _ (w.heap.size + 1) _ _ _ _ _ rfl K2.out) rfl ?_
        exact ⟨rfl, K3.out⟩
    · clear h
      go_enter Tryd.func50, Tryd.ntmps50
      go_wp2_with fail
      refine (rfits_at true o.size 65535 _ (by simpa using c1)).mono ?_
      rintro e w1 ⟨rfl, rfl⟩
      go_wp2_with fail
      refine (rfits_at false o.code 255 _ (by simpa using c2)).mono ?_
      rintro e w1 ⟨rfl, rfl⟩
      go_wp2_with fail
      refine bodyPost_ret (results_recof _ _ (w.heap.size + 1) _ _ _ _ _ rfl K2.out) rfl ?_
      exact ⟨rfl, K3.out⟩
  · clear h
    go_enter Tryd.func50, Tryd.ntmps50
    go_wp2_with fail
    refine (rfits_at false o.size 65535 _ (by simpa using c1)).mono ?_
    rintro e w1 ⟨rfl, rfl⟩
    go_wp2_with fail
    refine bodyPost_ret (results_recof _ _ (w.heap.size + 1) _ _ _ _ _ rfl K2.out) rfl ?_
    exact ⟨rfl, K3.out⟩

theorem ttl_one (o : Ot) (h : OtIn o) : bits .or .i64 (o.code * 16777216) (o.ver * 65536) = o.code * 16777216 + o.ver * 65536 := by
  obtain ⟨_, ⟨h1, h2⟩, ⟨h3, h4⟩, _⟩ := h
  exact bits_join .i64 62 (by decide) wrap_i64 24 _ _ (by omega) (by omega) (by omega) (by omega) (by omega) (by omega)

theorem ttl_two (o : Ot) (h : OtIn o) : bits .or .i64 (o.code * 16777216 + o.ver * 65536) o.z = o.code * 16777216 + o.ver * 65536 + o.z := by
  obtain ⟨_, ⟨h1, h2⟩, ⟨h3, h4⟩, ⟨h5, h6⟩⟩ := h
  exact bits_join .i64 62 (by decide) wrap_i64 16 _ _ (by omega) (by omega) (by omega) (by omega) (by omega) (by omega)

theorem ttl_three (o : Ot) (h : OtIn o) : bits .or .i64 (o.code * 16777216 + o.ver * 65536 + o.z) 32768 = o.code * 16777216 + o.ver * 65536 + o.z + 32768 := by
  obtain ⟨_, ⟨h1, h2⟩, ⟨h3, h4⟩, ⟨h5, h6⟩⟩ := h
  exact or_bit _ _ 15 (by decide) (by decide) (by omega) (by omega) (by omega)

set_option maxHeartbeats 2000000 in
set_option maxRecDepth 100000 in
theorem recordOf_data {x : Option Addr} {c bq : Nat} (k : Int) (o : Ot) (w : World) (h : OtIn o) (hs : Ops w bq x c o.os) (hk : dataE o.os = k) (h0 : ¬ k = 0) :
    Calls Tryd.prog 50 #[.agg #[.int .i64 o.size, .int .i64 o.code, .int .i64 o.ver, .bool o.dO, .int .i64 o.z, .slice x o.os.length c]] w fun e w' => e = .returned (.tuple #[.agg #[.slice none 0 0, .int .i64 0, .int .i64 0, .int .i64 0, .slice none 0 0], .iface 29 (.int .i64 k)]) ∧ Below w.heap.size w w' := by
  obtain ⟨k1, k2, k3⟩ := Bl.two 46 67 w #[.int .i64 o.size, .int .i64 o.code, .int .i64 o.ver, .bool o.dO, .int .i64 o.z, .slice x o.os.length c] #[.slice none 0 0, .int .i64 0, .int .i64 0, .int .i64 0, .slice none 0 0]
  obtain ⟨c1, c2, c3, c4⟩ := h
  have K2 := hid k2
  have K3 := hid k3
  have HS := hid (hs.below k3)
  have HK := hid hk
  have H0 := hid h0
  clear k1 k2 k3 hs hk h0
  go_enter Tryd.func50, Tryd.ntmps50
  go_wp2_with fail
  refine (rfits_at true o.size 65535 _ (by simpa using c1)).mono ?_
  rintro e w1 ⟨rfl, rfl⟩
  go_wp2_with fail
  refine (rfits_at true o.code 255 _ (by simpa using c2)).mono ?_
  rintro e w1 ⟨rfl, rfl⟩
  go_wp2_with fail
  refine (rfits_at true o.ver 255 _ (by simpa using c3)).mono ?_
  rintro e w1 ⟨rfl, rfl⟩
  go_wp2_with fail
  refine (rfits_at true o.z 32767 _ (by simpa using c4)).mono ?_
  rintro e w1 ⟨rfl, rfl⟩
  go_wp2_with fail
  refine (dataOf_bad k o.os _ HS.out rfl HK.out H0.out).mono ?_
  rintro e w2 ⟨rfl, b2⟩
  have L2 := hid (K2.out.below b2)
  have L3 := hid (grown_on K3.out b2)
  have f0 : w2.frozen? ⟨w.heap.size + 1, 0, none⟩ = false := L2.out.frozen 0
  have f1 : w2.frozen? ⟨w.heap.size + 1, 1, none⟩ = false := L2.out.frozen 1
  have f2 : w2.frozen? ⟨w.heap.size + 1, 2, none⟩ = false := L2.out.frozen 2
  have f3 : w2.frozen? ⟨w.heap.size + 1, 3, none⟩ = false := L2.out.frozen 3
  have f4 : w2.frozen? ⟨w.heap.size + 1, 4, none⟩ = false := L2.out.frozen 4
  have g0 : w2.cell? ⟨w.heap.size + 1, 0, none⟩ = some (.slice none 0 0) := L2.out.cell (i := 0) rfl
  have g1 : w2.cell? ⟨w.heap.size + 1, 1, none⟩ = some (.int .i64 0) := L2.out.cell (i := 1) rfl
  have g2 : w2.cell? ⟨w.heap.size + 1, 2, none⟩ = some (.int .i64 0) := L2.out.cell (i := 2) rfl
  have g3 : w2.cell? ⟨w.heap.size + 1, 3, none⟩ = some (.int .i64 0) := L2.out.cell (i := 3) rfl
  have g4 : w2.cell? ⟨w.heap.size + 1, 4, none⟩ = some (.slice none 0 0) := L2.out.cell (i := 4) rfl
  clear b2
  go_wp2_with fail
  refine bodyPost_ret (results_recof _ _ (w.heap.size + 1) _ _ _ _ _ rfl (L2.out.put5 _ _ _ _ _)) rfl ?_
  exact ⟨rfl, below_put5 L3.out (Nat.le_succ _) _ _ _ _ _⟩

/-- The record of what a message is to tell, in memory of its own. -/
def ORec (o : Ot) (w : World) (e : Ending) (w' : World) : Prop :=
  ∃ z t, e = .returned (.tuple #[.agg #[.slice none 0 0, .int .i64 41, .int .i64 o.size, .int .i64 (ttlN o), .slice z (optB o.os).length t], .nilIface]) ∧ Bys w' z t (optB o.os) ∧ (z = none → t = 0) ∧ (∀ a, z = some a → w.heap.size ≤ a.block) ∧ Below w.heap.size w w'

theorem optB_bytes {os : List On} (h : ∀ o ∈ os, ∀ b ∈ o.D, 0 ≤ b ∧ b ≤ 255) : ∀ b ∈ optB os, 0 ≤ b ∧ b ≤ 255 := by
  intro b hb
  obtain ⟨o, ho, hb⟩ := List.mem_flatMap.1 hb
  simp only [List.mem_append] at hb
  rcases hb with (hb | hb) | hb
  · exact two_bytes _ b hb
  · exact two_bytes _ b hb
  · exact h o ho b hb

theorem Ops.data {w : World} {B : Nat} {x : Option Addr} {c : Nat} {os : List On} (h : Ops w B x c os) : ∀ o ∈ os, ∀ b ∈ o.D, 0 ≤ b ∧ b ≤ 255 := by
  intro o ho
  obtain ⟨i, hi, rfl⟩ := List.mem_iff_getElem.1 ho
  obtain ⟨_, _, _, _, _, _, _, _, q, _⟩ := h.at hi
  exact q.2.2.1

theorem dataE_zero {os : List On} (h : dataE os = 0) : optE os = 0 ∧ optSize os ≤ 65535 := by
  unfold dataE at h
  by_cases c1 : optE os = 0
  · rw [if_neg (by simpa using c1)] at h
    by_cases c2 : 65535 < optSize os
    · rw [if_pos c2] at h; cases h
    · exact ⟨c1, by omega⟩
  · rw [if_pos c1] at h; exact absurd h c1

set_option maxHeartbeats 2000000 in
set_option maxRecDepth 100000 in
theorem recordOf_good {x : Option Addr} {c bq : Nat} (o : Ot) (w : World) (h : OtIn o) (hs : Ops w bq x c o.os) (hk : dataE o.os = 0) :
    Calls Tryd.prog 50 #[.agg #[.int .i64 o.size, .int .i64 o.code, .int .i64 o.ver, .bool o.dO, .int .i64 o.z, .slice x o.os.length c]] w (ORec o w) := by
  obtain ⟨k1, k2, k3⟩ := Bl.two 46 67 w #[.int .i64 o.size, .int .i64 o.code, .int .i64 o.ver, .bool o.dO, .int .i64 o.z, .slice x o.os.length c] #[.slice none 0 0, .int .i64 0, .int .i64 0, .int .i64 0, .slice none 0 0]
  have T1 := ttl_one o h
  have T2 := ttl_two o h
  have T3 := ttl_three o h
  obtain ⟨c1, c2, c3, c4⟩ := h
  have hbB := optB_bytes hs.data
  have hlB : (optB o.os).length ≤ 65535 := by rw [optB_len]; exact (dataE_zero hk).2
  have K1 := hid k1
  have K2 := hid k2
  have K3 := hid k3
  have HS := hid (hs.below k3)
  have HK := hid hk
  have HB := hid hbB
  clear k1 k2 k3 hs hk hbB
  go_enter Tryd.func50, Tryd.ntmps50
  go_wp2_with fail
  refine (rfits_at true o.size 65535 _ (by simpa using c1)).mono ?_
  rintro e w1 ⟨rfl, rfl⟩
  go_wp2_with fail
  refine (rfits_at true o.code 255 _ (by simpa using c2)).mono ?_
  rintro e w1 ⟨rfl, rfl⟩
  go_wp2_with fail
  refine (rfits_at true o.ver 255 _ (by simpa using c3)).mono ?_
  rintro e w1 ⟨rfl, rfl⟩
  go_wp2_with fail
  refine (rfits_at true o.z 32767 _ (by simpa using c4)).mono ?_
  rintro e w1 ⟨rfl, rfl⟩
  go_wp2_with fail
  refine (dataOf_good o.os _ HS.out rfl HK.out).mono ?_
  rintro e w2 ⟨v, rfl, r2, b2⟩
  obtain ⟨z, t, rfl, y1, y2, y3⟩ := rowb_new r2 (by omega) HB.out
  have Y1 := hid y1
  have Y2 := hid y2
  have Y3 : Hid (∀ p, z = some p → w.heap.size + 2 ≤ p.block) := hid (fun p hp => by have := y3 p hp; simpa using this)
  have L1 := hid (K1.out.below b2)
  have L2 := hid (K2.out.below b2)
  have L3 := hid (grown_on K3.out b2)
  have f0 : w2.frozen? ⟨w.heap.size + 1, 0, none⟩ = false := L2.out.frozen 0
  have f1 : w2.frozen? ⟨w.heap.size + 1, 1, none⟩ = false := L2.out.frozen 1
  have f2 : w2.frozen? ⟨w.heap.size + 1, 2, none⟩ = false := L2.out.frozen 2
  have f3 : w2.frozen? ⟨w.heap.size + 1, 3, none⟩ = false := L2.out.frozen 3
  have f4 : w2.frozen? ⟨w.heap.size + 1, 4, none⟩ = false := L2.out.frozen 4
  have g0 : w2.cell? ⟨w.heap.size + 1, 0, none⟩ = some (.slice none 0 0) := L2.out.cell (i := 0) rfl
  have g1 : w2.cell? ⟨w.heap.size + 1, 1, none⟩ = some (.int .i64 0) := L2.out.cell (i := 1) rfl
  have g2 : w2.cell? ⟨w.heap.size + 1, 2, none⟩ = some (.int .i64 0) := L2.out.cell (i := 2) rfl
  have g3 : w2.cell? ⟨w.heap.size + 1, 3, none⟩ = some (.int .i64 0) := L2.out.cell (i := 3) rfl
  have g4 : w2.cell? ⟨w.heap.size + 1, 4, none⟩ = some (.slice none 0 0) := L2.out.cell (i := 4) rfl
  have j0 : w2.cell? ⟨w.heap.size, 0, none⟩ = some (.int .i64 o.size) := L1.out.cell (i := 0) rfl
  have j1 : w2.cell? ⟨w.heap.size, 1, none⟩ = some (.int .i64 o.code) := L1.out.cell (i := 1) rfl
  have j2 : w2.cell? ⟨w.heap.size, 2, none⟩ = some (.int .i64 o.ver) := L1.out.cell (i := 2) rfl
  have j3 : w2.cell? ⟨w.heap.size, 3, none⟩ = some (.bool o.dO) := L1.out.cell (i := 3) rfl
  have j4 : w2.cell? ⟨w.heap.size, 4, none⟩ = some (.int .i64 o.z) := L1.out.cell (i := 4) rfl
  have j5 : w2.cell? ⟨w.heap.size, 5, none⟩ = some (.slice x o.os.length c) := L1.out.cell (i := 5) rfl
  clear b2 r2 y1 y2 y3 K1 K2 K3 HS
  cases hd : o.dO with
  | true =>
    have TT : Hid (o.code * 16777216 + o.ver * 65536 + o.z + 32768 = ttlN o) := hid (by unfold ttlN; rw [if_pos hd])
    rw [hd] at j3
    go_wp2_with fail
    refine bodyPost_ret (results_recof _ _ (w.heap.size + 1) _ _ _ _ _ rfl (L2.out.put5 _ _ _ _ _)) rfl ?_
    exact ⟨z, t, by rw [← TT.out]; rfl, Y1.out.far5 (fun a e => by have := Y3.out a e; omega) _ _ _ _ _, Y2.out, fun a e => by have := Y3.out a e; omega, below_put5 L3.out (Nat.le_succ _) _ _ _ _ _⟩
  | false =>
    have TT : Hid (o.code * 16777216 + o.ver * 65536 + o.z = ttlN o) := hid (by unfold ttlN; rw [hd]; simp)
    rw [hd] at j3
    go_wp2_with fail
    refine bodyPost_ret (results_recof _ _ (w.heap.size + 1) _ _ _ _ _ rfl (L2.out.put5 _ _ _ _ _)) rfl ?_
    exact ⟨z, t, by rw [← TT.out]; rfl, Y1.out.far5 (fun a e => by have := Y3.out a e; omega) _ _ _ _ _, Y2.out, fun a e => by have := Y3.out a e; omega, below_put5 L3.out (Nat.le_succ _) _ _ _ _ _⟩

end Go.Proofs.YtbbgabdiikdjpaaDoor

namespace Go.Proofs.YtbbgabdiikdjpaaDoor
open Go.RowKit Go.Deep

/-- The options that bytes are, if they are options alone (f: no more steps than that). -/
def optsN : Nat → List Int → Option (List On)
  | _, [] => some []
  | 0, _ :: _ => none
  | f + 1, b :: ms =>
    if (b :: ms).length < 4 then none
    else if (b :: ms).length < 4 + (numN (Nm.cut (b :: ms) 2 2)).toNat then none
    else (optsN f ((b :: ms).drop (4 + (numN (Nm.cut (b :: ms) 2 2)).toNat))).map (fun os => ⟨numN (Nm.cut (b :: ms) 0 2), Nm.cut (b :: ms) 4 (numN (Nm.cut (b :: ms) 2 2)).toNat⟩ :: os)

theorem optsN_step {f : Nat} {ms : List Int} (h : ms ≠ []) : optsN (f + 1) ms = if ms.length < 4 then none else if ms.length < 4 + (numN (Nm.cut ms 2 2)).toNat then none else (optsN f (ms.drop (4 + (numN (Nm.cut ms 2 2)).toNat))).map (fun os => ⟨numN (Nm.cut ms 0 2), Nm.cut ms 4 (numN (Nm.cut ms 2 2)).toNat⟩ :: os) := by
  cases ms with
  | nil => exact absurd rfl h
  | cons b ms => rfl

theorem two_numN {n : Int} (h0 : 0 ≤ n) (h1 : n ≤ 65535) : numN (twoN n) = n := by
  simp [numN, twoN]
  omega

theorem optsN_of (os : List On) (h : optE os = 0) : ∀ f, os.length ≤ f → optsN f (optB os) = some os := by
  induction os with
  | nil => intro f _; cases f <;> rfl
  | cons o os ih =>
    intro f hf
    rw [optE_cons] at h
    by_cases c1 : ¬ (0 ≤ o.code ∧ o.code ≤ 65535)
    · rw [if_pos c1] at h; cases h
    rw [if_neg c1] at h
    by_cases c2 : 65535 < o.D.length
    · rw [if_pos c2] at h; cases h
    rw [if_neg c2] at h
    have c1' : 0 ≤ o.code ∧ o.code ≤ 65535 := Classical.not_not.1 c1
    cases f with
    | zero => simp at hf
    | succ f =>
      have e : optB (o :: os) = o.code / 256 % 256 :: o.code % 256 :: (o.D.length : Int) / 256 % 256 :: (o.D.length : Int) % 256 :: (o.D ++ optB os) := by simp [optB, twoN]
      have k1 : Nm.cut (optB (o :: os)) 2 2 = twoN (o.D.length : Int) := by rw [e]; rfl
      have k2 : Nm.cut (optB (o :: os)) 0 2 = twoN o.code := by rw [e]; rfl
      have k3 : (numN (twoN (o.D.length : Int))).toNat = o.D.length := by rw [two_numN (by omega) (by omega)]; simp
      have k4 : (optB (o :: os)).length = 4 + o.D.length + (optB os).length := by rw [e]; simp; omega
      have k5 : (optB (o :: os)).drop (4 + o.D.length) = optB os := by rw [e, show 4 + o.D.length = o.D.length + 4 by omega]; simp
      have k6 : Nm.cut (optB (o :: os)) 4 o.D.length = o.D := by rw [e]; simp [Nm.cut]
      rw [optsN_step (by rw [e]; simp), k1, k3, k5, k6, k2, two_numN c1'.1 c1'.2, if_neg (by omega), if_neg (by omega), ih h f (by simpa using hf)]
      rfl

end Go.Proofs.YtbbgabdiikdjpaaDoor
