/-
  A copy of texts and of bytes (package fresh's list), for seats that know no records; the copy of a node of a rule.
-/
import Derived.Test.YtdkpdlkcloaoeaaRrFacts
import Derived.Test.YtdkpdlkcloaoeaaRlRow
import Derived.Deep.AppendSrc
import Derived.Deep.Upon
import Derived.Deep.Cut
namespace Go.Proofs.Ytdkpdlkcloaoeaa.Ru
open Go.RowKit Go.Deep

/-- A copy made by an append to nothing, whatever it is of. -/
theorem wpList_copy {w : World} {ops : Array Oper} {rest : List Oper} {o : Oper} {a : Act} {Q : Exit → Act → World → Prop} (t e : TypeId) (i0 : TypeInfo) (z : Value) (size bytes : Nat) (ht : Try.prog.underlying t = some (.slice e)) (hi : Try.prog.info? e = some i0) (hz0 : i0.zero = some z)
    (hz1 : i0.size = size) (hz2 : i0.bytes = bytes) (hzs : z.cells.size = size) (hsz : 0 < size) (hgd : o.guard = none) (x : Operand)
    (ho : o.op = .call { callee := .builtin .append, args := #[.const (.slice none 0 0), x], argTypes := #[t, t] }) (y : Option Addr) (m c : Nat) (news : List Value) (hx : a.eval x = .slice y m c) (hnil : y = none → m = 0) (hl : news.length = m * size)
    (hn : ∀ ad, y = some ad → ∀ j u, news[j]? = some u → w.cell? (ad.add j) = some u) (h1 : ∀ u ∈ news, u.oneCell' = true) (hm : m ≤ maxLen) (hb : (m + m / 4 + 192) * bytes ≤ 281474976710656)
    (hK : ∀ v' w', w'.ownsRow w.heap.size e size v' m news → w.grownBy w' none → wpList Try.prog ops Q rest (a.put o.dst v') w') : wpList Try.prog ops Q (o :: rest) a w := by
  refine wpList_plain hgd fun K hK' => ?_
  have hc : a.eval (.const (.slice none 0 0)) = .slice none 0 0 := rfl
  cases y with
  | none =>
    obtain rfl := hnil rfl
    have hn0 : news = [] := List.length_eq_zero_iff.1 (by rw [hl, Nat.zero_mul])
    subst hn0
    have hrun := run_append_nothing (P := Try.prog) w t t o.type e i0 ht hi none 0 0 (Nat.le_refl _) _ (Src.ofNil w ht c)
    unfold Oper.wp execOp
    simp only [ho, resolve, invoke, builtin, Sem.run_bind, Sem.run_pure, Result.andThen_ok, List.map_toArray, List.map_cons, List.map_nil, hx]
    rw [hc, hrun]
    exact hK' _ _ (hK _ w (World.ownsRow_nil _ _ _ _) ⟨rfl, rfl, rfl, Nat.le_refl _, fun k _ _ => rfl⟩)
  | some ad =>
    obtain ⟨v', w', hr, hown, hgr, _⟩ := run_append_own_wide (P := Try.prog) w w.heap.size t o.type e i0 z size bytes ht hi hz0 hz1 hz2 hzs hsz (.slice none 0 0) 0 [] (World.ownsRow_nil _ _ _ _) ad m c news hl (hn ad rfl) h1 (by omega) (by rw [Nat.zero_add]; exact hb) (Nat.le_refl _)
    unfold Oper.wp execOp
    simp only [ho, resolve, invoke, builtin, Sem.run_bind, Sem.run_pure, Result.andThen_ok, List.map_toArray, List.map_cons, List.map_nil, hx]
    rw [hc, hr]
    rw [Nat.zero_add, List.nil_append] at hown
    exact hK' _ _ (hK v' w' hown hgr)

theorem info_of_string2 : ∃ i, Try.prog.info? 9 = some i ∧ i.zero = some (.string ByteArray.empty) ∧ i.size = 1 ∧ i.bytes = 16 := info_parts info_string

theorem strs_news {w : World} {b off : Nat} {ms : List ByteArray} (q : ∀ i, i < ms.length → w.cell? ⟨b, off + i, none⟩ = some (.string (ms.getD i ByteArray.empty))) : ∀ j u, (ms.map Value.string)[j]? = some u → w.cell? ((⟨b, off, none⟩ : Addr).add j) = some u := by
  intro j u h
  rw [Go.WideShapes.add_plain]
  rw [List.getElem?_map] at h
  cases e : ms[j]? with
  | none => rw [e] at h; simp at h
  | some s =>
    rw [e] at h
    simp at h
    have hj : j < ms.length := by
      rcases Nat.lt_or_ge j ms.length with k | k
      · exact k
      · rw [List.getElem?_eq_none k] at e; simp at e
    rw [q j hj, List.getD_eq_getElem?_getD, e]
    simp [h]

theorem one_strs (xs : List ByteArray) : ∀ u ∈ xs.map Value.string, u.oneCell' = true := by
  intro u hu
  obtain ⟨x, _, rfl⟩ := List.mem_map.1 hu
  rfl

/-- A row of texts that the call owns is a slice of its own memory. -/
theorem rows_new {w : World} {B : Nat} {v : Value} {ss : List ByteArray} (h : w.ownsRow B 9 1 v ss.length (ss.map Value.string)) (hl : ss.length ≤ 8796093022208) (hb : ∀ s ∈ ss, s.size ≤ 140737488355328) :
    ∃ x c, v = .slice x ss.length c ∧ Strs w x c ss ∧ ∀ p, x = some p → B ≤ p.block := by
  have hc := fun (g : Nat) (hg : v.ownBlock = some g) => h.cells hg
  rcases h.2 with ⟨rfl, h4⟩ | ⟨g, cap, cur, rfl, hg, hh, hn, _⟩
  · have : ss = [] := List.length_eq_zero_iff.1 h4
    subst this
    exact ⟨none, 0, rfl, Strs.empty w, fun p q => by cases q⟩
  · refine ⟨_, cap, rfl, ⟨hn, hl, hb, Or.inr ⟨g, 0, rfl, ?_, fun i hi => ?_⟩⟩, fun p q => by cases q; exact hg⟩
    · rcases Nat.lt_or_ge g w.heap.size with q | q
      · exact q
      · rw [Array.getElem?_eq_none q] at hh; simp at hh
    · have := hc g rfl i (.string (ss.getD i ByteArray.empty)) (by rw [List.getElem?_map, List.getElem?_eq_getElem hi, List.getD_eq_getElem?_getD, List.getElem?_eq_getElem hi]; rfl)
      rw [Go.WideShapes.add_plain] at this
      exact this

theorem grown_below0 {w w' : World} (h : w.grownBy w' none) : Below w.heap.size w w' := (Below.refl _ w).grown h (Nat.le_refl _) (fun k hk => by cases hk)

set_option maxRecDepth 100000 in
theorem flist_bytes {x : Option Addr} {c l : Nat} (ms : List Int) (w : World) (h : Bys w x c ms) (hl : ms.length = l) :
    Calls Try.prog 24 #[.slice x l c] w fun e w' => ∃ z t, e = .returned (.slice z l t) ∧ Bys w' z t ms ∧ (z = none → t = 0) ∧ (∀ p, z = some p → w.heap.size ≤ p.block) ∧ Below w.heap.size w w' := by
  subst hl
  obtain ⟨i0, hi, hz0, hz1, hz2⟩ := info_of_byte
  have hlen := h.2.1
  have hbs := h.2.2.1
  have hnil : x = none → ms.length = 0 := fun e => by
    rcases h.2.2.2 with q | ⟨b, off, q, _⟩
    · rw [q]; rfl
    · rw [e] at q; cases q
  have hn : ∀ ad, x = some ad → ∀ j u, (ms.map (Value.int .u8))[j]? = some u → w.cell? (ad.add j) = some u := fun ad e => by
    rcases h.2.2.2 with q | ⟨b, off, q, _, q2⟩
    · subst q; simp
    · rw [e] at q; cases q; exact bys_news q2
  have H1 := hid hnil
  have H2 := hid hn
  clear hnil hn h
  go_enter Try.func24, Try.ntmps24
  go_wp2_with (at_builtin; refine wpList_copy 24 5 i0 (.int .u8 0) 1 1 Try.underlying24 hi hz0 hz1 hz2 rfl (by decide) rfl _ rfl x ms.length c (ms.map (Value.int .u8)) rfl H1.out (by simp) H2.out (one_cells ms) (by unfold maxLen; omega) (by omega) ?_)
  intro v1 w1 hown hg
  obtain ⟨z, r, rfl, hs, hzr, hf⟩ := rowb_new (Rowb.of (xs := ms) hown (by simp) rfl) hlen hbs
  have B1 := hid (grown_below0 hg)
  have S1 := hid hs
  have F1 := hid hf
  have Z1 := hid hzr
  clear hown hg hs hf hzr
  go_wp2_with fail
  go_ret
  exact ⟨z, r, rfl, S1.out, Z1.out, F1.out, B1.out⟩

set_option maxRecDepth 100000 in
theorem flist_strs {x : Option Addr} {c l : Nat} (ss : List ByteArray) (w : World) (h : Strs w x c ss) (hl : ss.length = l) :
    Calls Try.prog 23 #[.slice x l c] w fun e w' => ∃ z t, e = .returned (.slice z l t) ∧ Strs w' z t ss ∧ (∀ p, z = some p → w.heap.size ≤ p.block) ∧ Below w.heap.size w w' := by
  subst hl
  obtain ⟨i0, hi, hz0, hz1, hz2⟩ := info_of_string2
  have hlen := h.2.1
  have hbs := h.2.2.1
  have hnil : x = none → ss.length = 0 := fun e => by
    rcases h.2.2.2 with q | ⟨b, off, q, _⟩
    · rw [q]; rfl
    · rw [e] at q; cases q
  have hn : ∀ ad, x = some ad → ∀ j u, (ss.map Value.string)[j]? = some u → w.cell? (ad.add j) = some u := fun ad e => by
    rcases h.2.2.2 with q | ⟨b, off, q, _, q2⟩
    · subst q; simp
    · rw [e] at q; cases q; exact strs_news q2
  have H1 := hid hnil
  have H2 := hid hn
  clear hnil hn h
  go_enter Try.func23, Try.ntmps23
  go_wp2_with (at_builtin; refine wpList_copy 23 9 i0 (.string ByteArray.empty) 1 16 Try.underlying23 hi hz0 hz1 hz2 rfl (by decide) rfl _ rfl x ss.length c (ss.map Value.string) rfl H1.out (by simp) H2.out (one_strs ss) (by unfold maxLen; omega) (by omega) ?_)
  intro v1 w1 hown hg
  obtain ⟨z, r, rfl, hs, hf⟩ := rows_new hown hlen hbs
  have B1 := hid (grown_below0 hg)
  have S1 := hid hs
  have F1 := hid hf
  clear hown hg hs hf
  go_wp2_with fail
  go_ret
  exact ⟨z, r, rfl, S1.out, F1.out, B1.out⟩

theorem results_fmat (tmps : Array Value) (w : World) (b : Nat) (v0 v1 v2 v3 : Value) (hp : tmps.getD 2 undef = .pointer (some ⟨b, 0, none⟩)) (hb : Bl 36 w b #[v0, v1, v2, v3]) :
    (results Try.f17 tmps).run Try.prog w = .ok (.agg #[v0, v1, v2, v3]) w := by
  have c0 : w.cell? ⟨b, 0, none⟩ = some v0 := hb.cell (i := 0) rfl
  have c1 : w.cell? ⟨b, 1, none⟩ = some v1 := hb.cell (i := 1) rfl
  have c2 : w.cell? ⟨b, 2, none⟩ = some v2 := hb.cell (i := 2) rfl
  have c3 : w.cell? ⟨b, 3, none⟩ = some v3 := hb.cell (i := 3) rfl
  have hp' : tmps[2]?.getD undef = .pointer (some ⟨b, 0, none⟩) := by simpa using hp
  simp [results, Try.results17, go_sem, hp', c0, c1, c2, c3]

theorem put4 {t : TypeId} {w : World} {b : Nat} {u0 u1 u2 u3 : Value} (h : Bl t w b #[u0, u1, u2, u3]) (v0 v1 v2 v3 : Value) :
    Bl t ((((w.setCell ⟨b, 0, none⟩ v0).setCell ⟨b, 1, none⟩ v1).setCell ⟨b, 2, none⟩ v2).setCell ⟨b, 3, none⟩ v3) b #[v0, v1, v2, v3] := (((h.set 0 v0).set 1 v1).set 2 v2).set 3 v3

theorem below4 {w0 w : World} {b : Nat} (h : Below w0.heap.size w0 w) (hb : w0.heap.size ≤ b) (v0 v1 v2 v3 : Value) :
    Below w0.heap.size w0 ((((w.setCell ⟨b, 0, none⟩ v0).setCell ⟨b, 1, none⟩ v1).setCell ⟨b, 2, none⟩ v2).setCell ⟨b, 3, none⟩ v3) := (((h.setCell hb v0).setCell hb v1).setCell hb v2).setCell hb v3

/-- A copy of a node: in memory of its own. -/
def MtCopy (m : Mt) (w : World) (e : Ending) (w' : World) : Prop :=
  ∃ y s z t, e = .returned (.agg #[.int .i64 m.op, .int .i64 m.n, .slice y m.N.length s, .slice z m.A.length t]) ∧ Strs w' y s m.N ∧ Bys w' z t m.A ∧ (z = none → t = 0) ∧ Below w.heap.size w w' ∧ (∀ a, y = some a → w.heap.size ≤ a.block) ∧ ∀ a, z = some a → w.heap.size ≤ a.block

set_option maxHeartbeats 1000000 in
set_option maxRecDepth 100000 in
theorem fmatch_any {y z : Option Addr} {s t : Nat} (r : Mt) (w : World) (hN : Strs w y s r.N) (hD : Bys w z t r.A) :
    Calls Try.prog 17 #[.agg #[.int .i64 r.op, .int .i64 r.n, .slice y r.N.length s, .slice z r.A.length t]] w (MtCopy r w) := by
  obtain ⟨k1, k2, k3⟩ := rlTwo 36 36 w #[.int .i64 r.op, .int .i64 r.n, .slice y r.N.length s, .slice z r.A.length t] #[.int .i64 0, .int .i64 0, .slice none 0 0, .slice none 0 0]
  have HN := hid (hN.below k3)
  have HD := hid (hD.below k3)
  have HD0 := hid hD
  have K1 := hid k1
  have K2 := hid k2
  have K3 := hid k3
  clear hN hD k1 k2 k3
  go_enter Try.func17, Try.ntmps17
  go_wp2_with fail
  refine (flist_strs r.N _ HN.out rfl).mono ?_
  rintro e w1 ⟨y1, s1, rfl, h1, f1, b1⟩
  have L1 := hid (K1.out.below b1)
  have L2 := hid (K2.out.below b1)
  have L3 := hid (grown_on K3.out b1)
  have HD1 := hid (HD.out.below b1)
  have HN1 := hid h1
  have F1 : Hid (∀ p, y1 = some p → w.heap.size + 2 ≤ p.block) := hid (fun p hp => by have := f1 p hp; simpa using this)
  have c0 : w1.cell? ⟨w.heap.size, 2, none⟩ = _ := L1.out.cell (i := 2) rfl
  have z0 := L1.out.frozen 2
  clear h1 f1 b1 K1 K2 K3 HN HD
  go_upto_region 2 with fail
  have M1 : Bl 36 (w1.setCell ⟨w.heap.size, 2, none⟩ (.slice y1 r.N.length s1)) w.heap.size #[.int .i64 r.op, .int .i64 r.n, .slice y1 r.N.length s1, .slice z r.A.length t] := L1.out.set 2 _
  have M2 : Bl 36 (w1.setCell ⟨w.heap.size, 2, none⟩ (.slice y1 r.N.length s1)) (w.heap.size + 1) _ := L2.out.far (p := ⟨w.heap.size, 2, none⟩) (by simp) (.slice y1 r.N.length s1)
  have M3 := L3.out.setCell (p := ⟨w.heap.size, 2, none⟩) (Nat.le_refl _) (.slice y1 r.N.length s1)
  have HN2 : Strs (w1.setCell ⟨w.heap.size, 2, none⟩ (.slice y1 r.N.length s1)) y1 s1 r.N := HN1.out.far (fun a e => by have := F1.out a e; simp; omega) _
  have HD2 := hid (HD0.out.below M3)
  have c4 : (w1.setCell ⟨w.heap.size, 2, none⟩ (.slice y1 r.N.length s1)).cell? ⟨w.heap.size, 3, none⟩ = _ := M1.cell (i := 3) rfl
  generalize w1.setCell ⟨w.heap.size, 2, none⟩ (.slice y1 r.N.length s1) = w2 at *
  have N1 := hid M1
  have N2 := hid M2
  have N3 := hid M3
  have HN3 := hid HN2
  clear M1 M2 M3 HN2 HD1 L1 L2 L3 HN1 c0 z0
  go_wp2_with fail
  refine (flist_bytes r.A _ HD2.out rfl).mono ?_
  rintro e w3 ⟨z1, t1, rfl, h2, hzt, f2, b2⟩
  have hs := N2.out.lt
  have O1 := N1.out.below b2
  have O2 := N2.out.below b2
  have O3 := grown_on N3.out b2
  have O4 := HN3.out.below b2
  have F2 : Hid (∀ p, z1 = some p → w.heap.size + 2 ≤ p.block) := hid (fun p hp => by have := f2 p hp; omega)
  have ZT := hid hzt
  have d4 : w3.cell? ⟨w.heap.size, 3, none⟩ = _ := O1.cell (i := 3) rfl
  have z4 := O1.frozen 3
  have P0 := hid O1
  have P1 : Hid (Bl 36 (w3.setCell ⟨w.heap.size, 3, none⟩ (.slice z1 r.A.length t1)) w.heap.size #[.int .i64 r.op, .int .i64 r.n, .slice y1 r.N.length s1, .slice z1 r.A.length t1]) := hid (O1.set 3 _)
  have P2 : Hid (Bl 36 (w3.setCell ⟨w.heap.size, 3, none⟩ (.slice z1 r.A.length t1)) (w.heap.size + 1) #[.int .i64 0, .int .i64 0, .slice none 0 0, .slice none 0 0]) := hid (O2.far (p := ⟨w.heap.size, 3, none⟩) (by simp) _)
  have P3 := hid (O3.setCell (p := ⟨w.heap.size, 3, none⟩) (Nat.le_refl _) (.slice z1 r.A.length t1))
  have P4 : Hid (Strs (w3.setCell ⟨w.heap.size, 3, none⟩ (.slice z1 r.A.length t1)) y1 s1 r.N) := hid (O4.far (fun a e => by have := F1.out a e; simp; omega) _)
  have P5 : Hid (Bys (w3.setCell ⟨w.heap.size, 3, none⟩ (.slice z1 r.A.length t1)) z1 t1 r.A) := hid (h2.far (fun a e => by have := F2.out a e; simp; omega) _)
  clear O1 O2 O3 O4 h2 hzt f2 b2 N1 N2 N3 HN3 HD2 c4 hs
  go_upto_region 3 with fail
  generalize w3.setCell ⟨w.heap.size, 3, none⟩ (.slice z1 r.A.length t1) = w4 at *
  have g0 : w4.cell? ⟨w.heap.size, 0, none⟩ = _ := P1.out.cell (i := 0) rfl
  have g1 : w4.cell? ⟨w.heap.size, 1, none⟩ = _ := P1.out.cell (i := 1) rfl
  have g2 : w4.cell? ⟨w.heap.size, 2, none⟩ = _ := P1.out.cell (i := 2) rfl
  have g3 : w4.cell? ⟨w.heap.size, 3, none⟩ = _ := P1.out.cell (i := 3) rfl
  have j0 : w4.cell? ⟨w.heap.size + 1, 0, none⟩ = _ := P2.out.cell (i := 0) rfl
  have j1 : w4.cell? ⟨w.heap.size + 1, 1, none⟩ = _ := P2.out.cell (i := 1) rfl
  have j2 : w4.cell? ⟨w.heap.size + 1, 2, none⟩ = _ := P2.out.cell (i := 2) rfl
  have j3 : w4.cell? ⟨w.heap.size + 1, 3, none⟩ = _ := P2.out.cell (i := 3) rfl
  have q0 := P2.out.frozen 0
  have q1 := P2.out.frozen 1
  have q2 := P2.out.frozen 2
  have q3 := P2.out.frozen 3
  clear d4 z4 P0
  go_wp2_with fail
  refine bodyPost_ret (results_fmat _ _ (w.heap.size + 1) _ _ _ _ rfl (put4 P2.out _ _ _ _)) rfl ?_
  have n1 : ∀ a, y1 = some a → ¬ a.block = w.heap.size + 1 := fun a e => by have := F1.out a e; omega
  have n2 : ∀ a, z1 = some a → ¬ a.block = w.heap.size + 1 := fun a e => by have := F2.out a e; omega
  exact ⟨y1, s1, z1, t1, rfl, (((P4.out.far n1 _).far n1 _).far n1 _).far n1 _, (((P5.out.far n2 _).far n2 _).far n2 _).far n2 _, ZT.out, below4 P3.out (by omega) _ _ _ _, fun a e => by have := F1.out a e; omega, fun a e => by have := F2.out a e; omega⟩

end Go.Proofs.Ytdkpdlkcloaoeaa.Ru
