/-
  The walk of package rule's grow: the tree of nodes that are right each by itself. Written by genrg.py.
-/
import Derived.Test.YtnbabdfcamdapaaRcTree
import Derived.Test.YtnbabdfcamdapaaRcAsk
import Derived.Test.YtnbabdfcamdapaaRlMat
import Derived.Deep.Cut
namespace Go.Proofs.Ytnbabdfcamdapaa.Ru
open Go.RowKit Go.Deep

theorem drop_some {α : Type} {l : List α} {k n : Nat} (h : l.length = k + n) : (l.drop k).length = n := by rw [List.length_drop]; omega

/-- One node more. -/
theorem push_leaf {ts : List T} {m : Mt} (h : takes m.op = 0) : push ts.reverse m = some (ts ++ [T.leaf m]).reverse := by
  unfold push; rw [if_pos h, List.reverse_append]; rfl

theorem push_one {ts : List T} {m : Mt} {a : T} (h : takes m.op = 1) : push (ts ++ [a]).reverse m = some (ts ++ [T.one m a]).reverse := by
  unfold push; rw [if_neg (by omega), if_pos h, List.reverse_append, List.reverse_append]; rfl

theorem push_two {ts : List T} {m : Mt} {a b : T} (h : takes m.op = 2) : push (ts ++ [a, b]).reverse m = some (ts ++ [T.two m a b]).reverse := by
  unfold push; rw [if_neg (by omega), if_neg (by omega), List.reverse_append, List.reverse_append]; rfl

theorem push_fail {ts : List T} {m : Mt} (h : ts.length < takes m.op) : push ts.reverse m = none := by
  have := push_cnt ts.reverse m
  rw [List.length_reverse, if_pos h] at this
  cases hp : push ts.reverse m with
  | none => rfl
  | some s => rw [hp] at this; cases this

theorem stack_next {r : List Mt} {i : Nat} {s : List T} (hi : i < r.length) (h : stackN [] (r.take i) = some s) : stackN [] (r.take (i + 1)) = push s r[i] := by
  rw [← List.take_append_getElem hi, stackN_append, h]
  simp only [Option.bind_some, stackN]
  cases push s r[i] <;> rfl

theorem stack_stop {r : List Mt} {i : Nat} {s : List T} (hi : i < r.length) (h : stackN [] (r.take i) = some s) (hp : push s r[i] = none) : stackN [] r = none := by
  have e : stackN [] r = stackN [] (r.take i ++ r.drop i) := by rw [List.take_append_drop]
  rw [e, stackN_append, h, List.drop_eq_getElem_cons hi]
  simp only [Option.bind_some, stackN, hp]

/-- The tree that a node makes with the last ones of a row. -/
theorem tree_new {wp w w' : World} {ts : List T} {M : List (List Value × T)} {e : Me} {v8 : Value} {own : Option Nat} (B f k : Nat) (hk : takes e.m.op = k) (hl : ts.length = f + k) (hM : M.map Prod.snd = ts.drop f) (hm : MeIn wp e) (hi : ∀ x ∈ M, TIs wp w (fun b => B ≤ b ∧ some b ≠ own) x.2 x.1)
    (h8 : w'.ownsRow w.heap.size 48 5 v8 k (M.flatMap Prod.fst)) (hb : Below w.heap.size w w') (ho : ∀ g, own = some g → g < w.heap.size) (hB : B ≤ w.heap.size) :
    ∃ y c t, v8 = .slice y k c ∧ TIs wp w' (fun b => B ≤ b ∧ some b ≠ own) t (tcells e y k c) ∧ push ts.reverse e.m = some (ts.take f ++ [t]).reverse := by
  have hd : (ts.drop f).length = k := drop_some (by omega)
  have et : ts = ts.take f ++ ts.drop f := (List.take_append_drop f ts).symm
  have hMl : M.length = k := by rw [← hd, ← hM, List.length_map]
  have hw : ∀ x ∈ M, TIs wp w' (fun b => B ≤ b ∧ some b ≠ own) x.2 x.1 := fun x hx => (hi x hx).below hb
  rcases takes_cases e.m.op with q | q | q
  · rw [q] at hk
    subst hk
    have hM0 : M = [] := List.length_eq_zero_iff.1 hMl
    subst hM0
    have hd0 : ts.drop f = [] := hM.symm
    have : ∃ y c, v8 = .slice y 0 c := by
      rcases h8.2 with ⟨a, _⟩ | ⟨g, cap, cur, a, _⟩
      · exact ⟨_, _, a⟩
      · exact ⟨_, _, a⟩
    obtain ⟨y, c, rfl⟩ := this
    refine ⟨y, c, .leaf e.m, rfl, ⟨e, y, c, rfl, rfl, hm⟩, ?_⟩
    have e2 : ts.take f = ts := by rw [hd0, List.append_nil] at et; exact et.symm
    rw [e2]
    exact push_leaf q
  · rw [q] at hk
    subst hk
    obtain ⟨g, c, hge, rfl, hg, hc1⟩ : ∃ g c, w.heap.size ≤ g ∧ v8 = .slice (some ⟨g, 0, none⟩) 1 c ∧ g < w'.heap.size ∧ 1 ≤ c := by
      have hlt := World.ownsRow.lt h8
      rcases h8.2 with ⟨_, a⟩ | ⟨g, cap, cur, rfl, hg, _, hn, _⟩
      · cases a
      · exact ⟨g, cap, hg, rfl, (hlt g rfl).2, hn⟩
    match M, hMl with
    | [x], _ =>
      have hx : ts.drop f = [x.2] := hM.symm
      have hcell := fun j u hj => h8.cells (g := g) rfl j u hj
      simp only [List.flatMap_cons, List.flatMap_nil, List.append_nil, Go.WideShapes.add_plain, Nat.zero_add] at hcell
      refine ⟨_, c, .one e.m x.2, rfl, ⟨e, g, c, x.1, rfl, rfl, hm, hg, ⟨by omega, fun a => ?_⟩, hc1, hcell, hw x List.mem_cons_self⟩, ?_⟩
      · have := ho g a.symm; omega
      · rw [et, hx, show (ts.take f ++ [x.2]).take f = ts.take f by rw [List.take_append_of_le_length (by rw [List.length_take]; omega), List.take_take, Nat.min_self]]
        exact push_one q
  · rw [q] at hk
    subst hk
    obtain ⟨g, c, hge, rfl, hg, hc1⟩ : ∃ g c, w.heap.size ≤ g ∧ v8 = .slice (some ⟨g, 0, none⟩) 2 c ∧ g < w'.heap.size ∧ 2 ≤ c := by
      have hlt := World.ownsRow.lt h8
      rcases h8.2 with ⟨_, a⟩ | ⟨g, cap, cur, rfl, hg, _, hn, _⟩
      · cases a
      · exact ⟨g, cap, hg, rfl, (hlt g rfl).2, hn⟩
    match M, hMl with
    | [x, y], _ =>
      have hx : ts.drop f = [x.2, y.2] := hM.symm
      have hcell := fun j u hj => h8.cells (g := g) rfl j u hj
      simp only [List.flatMap_cons, List.flatMap_nil, List.append_nil, Go.WideShapes.add_plain, Nat.zero_add] at hcell
      refine ⟨_, c, .two e.m x.2 y.2, rfl, ⟨e, g, c, x.1, y.1, rfl, rfl, hm, hg, ⟨by omega, fun a => ?_⟩, hc1, hcell, hw x List.mem_cons_self, hw y (List.mem_cons_of_mem _ List.mem_cons_self)⟩, ?_⟩
      · have := ho g a.symm; omega
      · rw [et, hx, show (ts.take f ++ [x.2, y.2]).take f = ts.take f by rw [List.take_append_of_le_length (by rw [List.length_take]; omega), List.take_take, Nat.min_self]]
        exact push_two q

/-- What grow hands back. -/
def GrowP (wp : World) (r : List Mt) (w : World) (e : Ending) (w' : World) : Prop :=
  Below w.heap.size w w' ∧
    ((∃ t cs, stackN [] r = some [t] ∧ TIs wp w' (fun k => w.heap.size ≤ k) t cs ∧ e = .returned (.tuple #[.agg cs.toArray, .nilIface])) ∨
      ((¬ ∃ t, stackN [] r = some [t]) ∧ e = .returned (.tuple #[.agg #[.int .i64 0, .int .i64 0, .slice none 0 0, .slice none 0 0, .slice none 0 0], .iface 52 (.int .i64 1)])))

def GrowRel (wp : World) (r : List Mt) (w : World) (v vi : Value) (wr : World) : Prop :=
  ∃ (i : Nat) (ts : List T), i ≤ r.length ∧ vi = .int .i64 (i : Int) ∧ stackN [] (r.take i) = some ts.reverse ∧ ts.length ≤ i ∧ TRow wp (w.heap.size + 1) wr v ts ∧ Bl 48 wr w.heap.size #[.int .i64 0, .int .i64 0, .slice none 0 0, .slice none 0 0, .slice none 0 0] ∧ Below w.heap.size w wr

theorem results_grow (tmps : Array Value) (w : World) (b : Nat) (v0 v1 v2 v3 v4 v : Value) (hp : tmps.getD 2 undef = .pointer (some ⟨b, 0, none⟩)) (h3 : tmps.getD 3 undef = v) (hb : Bl 48 w b #[v0, v1, v2, v3, v4]) :
    (results Try.f16 tmps).run Try.prog w = .ok (.tuple #[.agg #[v0, v1, v2, v3, v4], v]) w := by
  have c0 : w.cell? ⟨b, 0, none⟩ = some v0 := hb.cell (i := 0) rfl
  have c1 : w.cell? ⟨b, 1, none⟩ = some v1 := hb.cell (i := 1) rfl
  have c2 : w.cell? ⟨b, 2, none⟩ = some v2 := hb.cell (i := 2) rfl
  have c3 : w.cell? ⟨b, 3, none⟩ = some v3 := hb.cell (i := 3) rfl
  have c4 : w.cell? ⟨b, 4, none⟩ = some v4 := hb.cell (i := 4) rfl
  have hp' : tmps[2]?.getD undef = .pointer (some ⟨b, 0, none⟩) := by simpa using hp
  have h3' : tmps[3]?.getD undef = v := by simpa using h3
  simp [results, Try.results16, go_sem, hp', h3', c0, c1, c2, c3, c4]

theorem put5' {t : TypeId} {w : World} {b : Nat} {u0 u1 u2 u3 u4 : Value} (h : Bl t w b #[u0, u1, u2, u3, u4]) (v0 v1 v2 v3 v4 : Value) :
    Bl t (((((w.setCell ⟨b, 0, none⟩ v0).setCell ⟨b, 1, none⟩ v1).setCell ⟨b, 2, none⟩ v2).setCell ⟨b, 3, none⟩ v3).setCell ⟨b, 4, none⟩ v4) b #[v0, v1, v2, v3, v4] := ((((h.set 0 v0).set 1 v1).set 2 v2).set 3 v3).set 4 v4

theorem below5' {w0 w : World} {b : Nat} (h : Below w0.heap.size w0 w) (hb : w0.heap.size ≤ b) (v0 v1 v2 v3 v4 : Value) :
    Below w0.heap.size w0 (((((w.setCell ⟨b, 0, none⟩ v0).setCell ⟨b, 1, none⟩ v1).setCell ⟨b, 2, none⟩ v2).setCell ⟨b, 3, none⟩ v3).setCell ⟨b, 4, none⟩ v4) := ((((h.setCell hb v0).setCell hb v1).setCell hb v2).setCell hb v3).setCell hb v4

theorem TIs.form {wp w : World} {P : Nat → Prop} {t : T} {cs : List Value} (h : TIs wp w P t cs) : ∃ e x n c, cs = tcells e x n c := by
  cases t with
  | leaf m => obtain ⟨e, x, c, _, rfl, _⟩ := h; exact ⟨_, _, _, _, rfl⟩
  | one m a => obtain ⟨e, g, c, ca, _, rfl, _⟩ := h; exact ⟨_, _, _, _, rfl⟩
  | two m a b => obtain ⟨e, g, c, ca, cb, _, rfl, _⟩ := h; exact ⟨_, _, _, _, rfl⟩

theorem five {α : Type} {l : List α} (h : l.length = 5) : ∃ a0 a1 a2 a3 a4, l = [a0, a1, a2, a3, a4] := by
  match l, h with
  | [a0, a1, a2, a3, a4], _ => exact ⟨a0, a1, a2, a3, a4, rfl⟩

theorem bl5 {t : TypeId} {w : World} {b : Nat} {v0 v1 v2 v3 v4 : Value} (h : Bl t w b #[v0, v1, v2, v3, v4]) : w.cell? ⟨b, 0, none⟩ = some v0 ∧ w.cell? ⟨b, 1, none⟩ = some v1 ∧ w.cell? ⟨b, 2, none⟩ = some v2 ∧ w.cell? ⟨b, 3, none⟩ = some v3 ∧ w.cell? ⟨b, 4, none⟩ = some v4 :=
  ⟨h.cell (i := 0) rfl, h.cell (i := 1) rfl, h.cell (i := 2) rfl, h.cell (i := 3) rfl, h.cell (i := 4) rfl⟩

theorem five_above {w : World} {g k : Nat} (hk : g + 1 ≤ k) (v0 v1 v2 v3 v4 : Value) :
    (((((w.setCell ⟨g, 0, none⟩ v0).setCell ⟨g, 1, none⟩ v1).setCell ⟨g, 2, none⟩ v2).setCell ⟨g, 3, none⟩ v3).setCell ⟨g, 4, none⟩ v4).heap[k]? = w.heap[k]? := by
  have key : ∀ (u : World) (i : Nat) (v : Value), (u.setCell ⟨g, i, none⟩ v).heap[k]? = u.heap[k]? := fun u i v => Below.heap_setCell u ⟨g, i, none⟩ v k (by simp only; omega)
  rw [key, key, key, key, key]

/-- Worlds in which a block is as it was. -/
structure HasB (g : Nat) (o : Option Obj) where
  val : World
  has : val.heap[g]? = o

set_option maxHeartbeats 4000000 in
set_option maxRecDepth 100000 in
theorem grow_any {x : Option Addr} {c l : Nat} (r : List Mt) (wp w : World) (h : Mats wp x c r) (hwp : Below wp.heap.size wp w) (hl : r.length = l) (h200 : r.length ≤ 200) : Calls Try.prog 16 #[.slice x l c] w (GrowP wp r w) := by
  subst hl
  have K0 := Bl.new 48 w #[.int .i64 0, .int .i64 0, .slice none 0 0, .slice none 0 0, .slice none 0 0]
  have B0 := boxed 48 w #[.int .i64 0, .int .i64 0, .slice none 0 0, .slice none 0 0, .slice none 0 0]
  have S0 : GrowRel wp r w (.slice none 0 0) (.int .i64 0) (w.alloc (.cells #[.int .i64 0, .int .i64 0, .slice none 0 0, .slice none 0 0, .slice none 0 0] 48)) := ⟨0, [], Nat.zero_le _, rfl, rfl, Nat.le_refl _, TRow.nil _ (grown_on hwp B0), K0, B0⟩
  have SS := hid S0
  have HH := hid h
  have HP := hid hwp
  have hlen := h.2.1
  clear K0 B0 S0 h hwp
  go_enter Try.func16, Try.ntmps16
  go_wp2_with fail
  go_loopw [4, 11] (fun v vi wr => GrowRel wp r w v vi wr) (fun _ i _ => r.length - (intOf i).toNat)
  case atStart => exact SS.out
  case round =>
    obtain ⟨i, ts, hi, rfl, hst, hti, hrow, hbl, hbel⟩ := hrel
    clear SS
    by_cases ci : i < r.length
    rotate_left
    · have ei : i = r.length := by omega
      subst ei
      rw [List.take_of_length_le (Nat.le_refl _)] at hst
      have c2 : ¬ (r.length : Int) < (r.length : Int) := by omega
      obtain ⟨z0, z1, z2, z3, z4⟩ := bl5 hbl
      have y0 := hbl.frozen 0
      have y1 := hbl.frozen 1
      have y2 := hbl.frozen 2
      have y3 := hbl.frozen 3
      have y4 := hbl.frozen 4
      have RR := hid hrow
      have KK := hid hbl
      have BB := hid hbel
      have ST := hid hst
      have hsl := hrow.slice
      clear hrow hbl hbel hst
      rcases hsl with ⟨rfl, rfl⟩ | ⟨g, cv, rfl, hg, hgl, hlc⟩
      · go_wp2_with fail
        refine bodyPost_ret (results_grow _ _ w.heap.size _ _ _ _ _ _ rfl rfl (put5' KK.out _ _ _ _ _)) rfl ?_
        exact ⟨below5' BB.out (Nat.le_refl _) _ _ _ _ _, Or.inr ⟨fun ⟨t, e⟩ => (by rw [ST.out] at e; cases e), rfl⟩⟩
      · by_cases c1 : ts.length = 1
        · obtain ⟨t, rfl⟩ : ∃ t, ts = [t] := by match ts, c1 with | [t], _ => exact ⟨t, rfl⟩
          obtain ⟨M, hM, hMi, hMl, hMo, hMc⟩ := RR.out.last 0 (Nat.zero_le _)
          obtain ⟨cs, rfl⟩ : ∃ cs, M = [(cs, t)] := by
            match M, hM with
            | [(cs, t')], hM => simp at hM; subst hM; exact ⟨cs, rfl⟩
          have ht := hMi _ List.mem_cons_self
          obtain ⟨e5, x5, n5, c5, rfl⟩ := ht.form
          have d0 := hMc 0 (.int .i64 e5.m.op) rfl
          have d1 := hMc 1 (.int .i64 e5.m.n) rfl
          have d2 := hMc 2 (.slice e5.y e5.m.N.length e5.s) rfl
          have d3 := hMc 3 (.slice e5.z e5.m.A.length e5.t) rfl
          have d4 := hMc 4 (.slice x5 n5 c5) rfl
          simp only [Go.WideShapes.add_plain, Nat.zero_mul, Nat.zero_add] at d0 d1 d2 d3 d4
          have T1 : Hid (∀ v0 v1 v2 v3 v4, TIs wp (((((wr.setCell ⟨w.heap.size, 0, none⟩ v0).setCell ⟨w.heap.size, 1, none⟩ v1).setCell ⟨w.heap.size, 2, none⟩ v2).setCell ⟨w.heap.size, 3, none⟩ v3).setCell ⟨w.heap.size, 4, none⟩ v4) (fun k => w.heap.size ≤ k) t (tcells e5 x5 n5 c5)) := hid (fun v0 v1 v2 v3 v4 => ht.mono (by simp) fun k _ hk => ⟨Nat.le_of_succ_le hk.1, five_above hk.1 v0 v1 v2 v3 v4⟩)
          clear hMi hMl hMo hMc hM ht
          go_wp2_with fail
          refine bodyPost_ret (results_grow _ _ w.heap.size _ _ _ _ _ _ rfl rfl (put5' KK.out _ _ _ _ _)) rfl ?_
          exact ⟨below5' BB.out (Nat.le_refl _) _ _ _ _ _, Or.inl ⟨t, tcells e5 x5 n5 c5, ST.out, T1.out _ _ _ _ _, rfl⟩⟩
        · have c3 : ((ts.length : Int) == 1) = false := by simpa using (by omega : ¬ (ts.length : Int) = 1)
          go_wp2_with fail
          refine bodyPost_ret (results_grow _ _ w.heap.size _ _ _ _ _ _ rfl rfl (put5' KK.out _ _ _ _ _)) rfl ?_
          exact ⟨below5' BB.out (Nat.le_refl _) _ _ _ _ _, Or.inr ⟨fun ⟨t, e⟩ => c1 (by
            rw [ST.out] at e
            have := congrArg List.length (Option.some.inj e)
            simpa using this), rfl⟩⟩
    obtain ⟨b0, o0, rfl, hb0, qa⟩ := HH.out.all (by omega)
    obtain ⟨y, s, z, t, p0, p1, p2, p3, q1, q2, q3⟩ := qa i ci
    have hnum := HH.out.2.2.1 _ (List.getElem_mem ci)
    have hcap := HH.out.1
    have BP := grown_on HP.out hbel
    have e0 := (BP.cell (p := ⟨b0, o0 + i * 4, none⟩) hb0).trans p0
    have e1 := (BP.cell (p := ⟨b0, o0 + i * 4 + 1, none⟩) hb0).trans p1
    have e2 := (BP.cell (p := ⟨b0, o0 + i * 4 + 2, none⟩) hb0).trans p2
    have e3 := (BP.cell (p := ⟨b0, o0 + i * 4 + 3, none⟩) hb0).trans p3
    have NX := hid (stack_next ci hst)
    have SP := hid (stack_stop ci hst)
    clear qa p0 p1 p2 p3 hst BP
    generalize r[i] = m at *
    have ME : Hid (MeIn wp ⟨m, y, s, z, t⟩) := hid ⟨q1, q2, q3, hnum⟩
    obtain ⟨k, hk⟩ : ∃ k, takes m.op = k := ⟨_, rfl⟩
    have hk2 : k ≤ 2 := by rcases takes_cases m.op with q | q | q <;> omega
    have ci2 : (i : Int) < (r.length : Int) := by omega
    have K1 := hid (Bl.new 41 wr #[.int .i64 m.op, .int .i64 m.n, .slice y m.N.length s, .slice z m.A.length t])
    have BA := boxed 41 wr #[.int .i64 m.op, .int .i64 m.n, .slice y m.N.length s, .slice z m.A.length t]
    obtain ⟨W1, hW⟩ : ∃ W1, wr.alloc (.cells #[.int .i64 m.op, .int .i64 m.n, .slice y m.N.length s, .slice z m.A.length t] 41) = W1 := ⟨_, rfl⟩
    rw [hW] at K1 BA
    have HW := hid hW
    have RR := hid (hrow.stay BA)
    have KK := hid (hbl.below BA)
    have BB := hid (grown_on hbel BA)
    have BS := hid (BA.size)
    have B8 := hid hbl.lt
    have KS : Hid (wr.heap.size < W1.heap.size) := hid K1.out.lt
    have hsl := hrow.slice
    have HK := hid hk
    clear hrow hbl hbel hW BA q1 q2 q3 hnum hk
    rcases hsl with ⟨rfl, rfl⟩ | ⟨g, cv, rfl, hg, hgl, hlc⟩
    · obtain ⟨m0, m1, m2, m3⟩ := bl4 K1.out
      go_upto_region 5 with fail
      rw [HW.out]
      clear HW e0 e1 e2 e3
      go_wp2_with fail
      refine (arity_at m.op m.n (k : Int) m.N.length m.A.length W1 (by rw [HK.out])).mono ?_
      rintro e W2 ⟨rfl, b2⟩
      replace K1 := hid (K1.out.below b2)
      replace RR := hid (RR.out.stay b2)
      replace KK := hid (KK.out.below b2)
      replace BB := hid (grown_on BB.out b2)
      replace KS := hid (Nat.lt_of_lt_of_le KS.out b2.size)
      clear b2 m0 m1 m2 m3
      by_cases cf : 0 < k
      · have cf2 : (0 : Int) - (k : Int) < 0 := by omega
        have y0 := KK.out.frozen 0
        have y1 := KK.out.frozen 1
        have y2 := KK.out.frozen 2
        have y3 := KK.out.frozen 3
        have y4 := KK.out.frozen 4
        obtain ⟨z0, z1, z2, z3, z4⟩ := bl5 KK.out
        have SN := hid (SP.out (push_fail (by rw [HK.out]; rw [List.length_nil]; exact cf)))
        go_wp2_with fail
        refine bodyPost_ret (results_grow _ _ w.heap.size _ _ _ _ _ _ rfl rfl (put5' KK.out _ _ _ _ _)) rfl ?_
        exact ⟨below5' BB.out (Nat.le_refl _) _ _ _ _ _, Or.inr ⟨fun ⟨t, e⟩ => (by rw [SN.out] at e; cases e), rfl⟩⟩
      · obtain rfl : k = 0 := by omega
        obtain ⟨i0, hi0, hz0, hz1, hz2⟩ := info_of_tree
        go_wp2_with (at_builtin; refine wpList_copy 46 48 i0 (.agg #[.int .i64 0, .int .i64 0, .slice none 0 0, .slice none 0 0, .slice none 0 0]) 5 88 Try.underlying46 hi0 hz0 hz1 hz2 rfl (by decide) rfl _ rfl none 0 0 [] rfl (fun _ => rfl) rfl (fun ad e => by cases e) (fun u hu => by simp at hu) (by unfold maxLen; omega) (by omega) ?_)
        intro v8 w3 hown hg8
        have b3 := grown_below0 hg8
        obtain ⟨y8, c8, t8, rfl, hT, hpush⟩ := tree_new (wp := wp) (ts := ([] : List T)) (M := []) (e := ⟨m, y, s, z, t⟩) (own := none) (w.heap.size + 1) 0 0 HK.out rfl rfl ME.out (fun x hx => by simp at hx) hown b3 (fun g e => by cases e) (by have := KS.out; have := BS.out; have := B8.out; omega)
        have TT := hid hT
        have PP := hid hpush
        have RW : Hid (TRow wp (w.heap.size + 1) w3 (.slice none 0 0) ([] : List T)) := hid (RR.out.stay b3)
        replace K1 := hid (K1.out.below b3)
        replace KK := hid (KK.out.below b3)
        replace BB := hid (grown_on BB.out b3)
        replace KS := hid (Nat.lt_of_lt_of_le KS.out b3.size)
        obtain ⟨m0, m1, m2, m3⟩ := bl4 K1.out
        clear hown hg8 hT hpush b3 RR SP HK
        go_upto_region 9 with fail
        have l0 : ∀ s' : HasB wr.heap.size w3.heap[wr.heap.size]?, s'.val.cell? ⟨wr.heap.size, 0, none⟩ = some (.int .i64 m.op) := fun s' => (World.cell?_of_block (w := w3) (a := ⟨wr.heap.size, 0, none⟩) s'.has).trans m0
        have l1 : ∀ s' : HasB wr.heap.size w3.heap[wr.heap.size]?, s'.val.cell? ⟨wr.heap.size, 1, none⟩ = some (.int .i64 m.n) := fun s' => (World.cell?_of_block (w := w3) (a := ⟨wr.heap.size, 1, none⟩) s'.has).trans m1
        have l2 : ∀ s' : HasB wr.heap.size w3.heap[wr.heap.size]?, s'.val.cell? ⟨wr.heap.size, 2, none⟩ = some (.slice y m.N.length s) := fun s' => (World.cell?_of_block (w := w3) (a := ⟨wr.heap.size, 2, none⟩) s'.has).trans m2
        have l3 : ∀ s' : HasB wr.heap.size w3.heap[wr.heap.size]?, s'.val.cell? ⟨wr.heap.size, 3, none⟩ = some (.slice z m.A.length t) := fun s' => (World.cell?_of_block (w := w3) (a := ⟨wr.heap.size, 3, none⟩) s'.has).trans m3
        have hNe : Nonempty (HasB wr.heap.size w3.heap[wr.heap.size]?) := ⟨⟨w3, rfl⟩⟩
        clear m0 m1 m2 m3
        refine wp_region_pt (.qs [0, 1, 2, 3, 4, 5] (.one 6 (.one 7 (.one 8 .nil)))) (fun u => ∃ s' : HasB wr.heap.size w3.heap[wr.heap.size]?, u = s'.val) (by kernel_rfl) (by kernel_rfl) ?_
        refine ptL_qs ⟨⟨w3.drew, rfl⟩, rfl⟩ ?_
        change wpQuiet _ _ _ _ [_, _, _, _, _, _] _
        repeat (go_big_quiet_step (fail))
        refine wpQuiet_nil ?_
        refine stepL_at (by rfl) fun K Q' hK => ?_
        go_simp
        have NC := Bl.new 48 w3 #[.int .i64 m.op, .int .i64 m.n, .slice y m.N.length s, .slice z m.A.length t, .slice y8 0 c8]
        have HB := ((Below.refl w3.heap.size w3).alloc (Nat.le_refl _) (.cells #[.int .i64 m.op, .int .i64 m.n, .slice y m.N.length s, .slice z m.A.length t, .slice y8 0 c8] 48)).drew
        replace NC := NC.below (Below.refl _ _).drew
        generalize (w3.alloc (.cells #[.int .i64 m.op, .int .i64 m.n, .slice y m.N.length s, .slice z m.A.length t, .slice y8 0 c8] 48)).drew = w4 at *
        refine hK _ _ (fun _ => ⟨⟨_, HB.block _ KS.out⟩, rfl⟩) ?_
        clear hK
        refine stepL_at (by rfl) fun K Q' hK => ?_
        refine wp_append_tree (t := t8) (cs := tcells ⟨m, y, s, z, t⟩ y8 0 c8) (.tmp 30) (.tmp 34) rfl rfl rfl (RW.out.stay HB) (fun j u hj => NC.cell (by simpa [tcells] using hj)) (TT.out.below HB) (by simp) (by have := HP.out.size; omega) (by have := BB.out.size; have := HB.size; have := KS.out; have := BS.out; have := B8.out; omega) ?_
        intro v9 w5 hr9 hg9 hb9
        have hkeep : w5.heap[wr.heap.size]? = w3.heap[wr.heap.size]? := (hg9.block _ (Nat.lt_of_lt_of_le KS.out HB.size) (fun e => by cases e)).trans (HB.block _ KS.out)
        refine hK _ _ (fun _ => ⟨⟨_, hkeep⟩, rfl⟩) ?_
        clear hK hkeep
        refine stepL_at (by rfl) fun K Q' hK => ?_
        go_simp
        have hkeep : w5.heap[wr.heap.size]? = w3.heap[wr.heap.size]? := (hg9.block _ (Nat.lt_of_lt_of_le KS.out HB.size) (fun e => by cases e)).trans (HB.block _ KS.out)
        refine hK _ _ (fun _ => ⟨⟨_, hkeep⟩, rfl⟩) ?_
        clear hK hkeep
        refine ptL_nil ?_
        have NR : Hid (GrowRel wp r w v9 (.int .i64 ((i : Int) + 1)) w5) := hid ⟨i + 1, ([] : List T) ++ [t8], by omega, by go_num, by rw [NX.out]; exact PP.out, by simp, hr9, blGrown (KK.out.below HB) hg9 (fun e => by cases e), (BB.out.trans (HB.mono BB.out.size)).trans (hb9.mono (Nat.le_succ _))⟩
        clear HB NC l0 l1 l2 l3 hNe hr9 hg9 hb9
        go_wp2_with fail
        exact ⟨NR.out, by simp [intOf]; omega⟩
    · obtain ⟨m0, m1, m2, m3⟩ := bl4 K1.out
      go_upto_region 5 with fail
      rw [HW.out]
      clear HW e0 e1 e2 e3
      go_wp2_with fail
      refine (arity_at m.op m.n (k : Int) m.N.length m.A.length W1 (by rw [HK.out])).mono ?_
      rintro e W2 ⟨rfl, b2⟩
      replace K1 := hid (K1.out.below b2)
      replace RR := hid (RR.out.stay b2)
      replace KK := hid (KK.out.below b2)
      replace BB := hid (grown_on BB.out b2)
      replace KS := hid (Nat.lt_of_lt_of_le KS.out b2.size)
      clear b2 m0 m1 m2 m3
      by_cases cf : ts.length < k
      · have cf2 : (ts.length : Int) - (k : Int) < 0 := by omega
        have y0 := KK.out.frozen 0
        have y1 := KK.out.frozen 1
        have y2 := KK.out.frozen 2
        have y3 := KK.out.frozen 3
        have y4 := KK.out.frozen 4
        obtain ⟨z0, z1, z2, z3, z4⟩ := bl5 KK.out
        have SN := hid (SP.out (push_fail (by rw [HK.out]; exact cf)))
        go_wp2_with fail
        refine bodyPost_ret (results_grow _ _ w.heap.size _ _ _ _ _ _ rfl rfl (put5' KK.out _ _ _ _ _)) rfl ?_
        exact ⟨below5' BB.out (Nat.le_refl _) _ _ _ _ _, Or.inr ⟨fun ⟨t, e⟩ => (by rw [SN.out] at e; cases e), rfl⟩⟩
      · obtain ⟨f, hf⟩ : ∃ f : Nat, ts.length = f + k := ⟨ts.length - k, by omega⟩
        have hsub : (ts.length : Int) - (k : Int) = (f : Int) := by omega
        obtain ⟨i0, hi0, hz0, hz1, hz2⟩ := info_of_tree
        obtain ⟨M, hM, hMi, hMl, hMo, hMc⟩ := RR.out.last f (by omega)
        have HM := hid hM
        have HMi := hid hMi
        have HMl := hid hMl
        have HMo := hid hMo
        have HMc := hid hMc
        have hfi : (f : Int) ≤ (ts.length : Int) := by omega
        have hfc : (f : Int) ≤ (cv : Int) := by omega
        clear hM hMi hMl hMo hMc
        by_cases k0 : k = 0
        · subst k0
          have HM0 : M = [] := by
            have e : M.length = 0 := by
              have := congrArg List.length HM.out
              rw [List.length_map, List.length_drop] at this
              omega
            exact List.length_eq_zero_iff.1 e
          subst HM0
          by_cases hcv : cv = f
          · subst hcv
            go_wp2_with (at_builtin; refine wpList_copy 46 48 i0 (.agg #[.int .i64 0, .int .i64 0, .slice none 0 0, .slice none 0 0, .slice none 0 0]) 5 88 Try.underlying46 hi0 hz0 hz1 hz2 rfl (by decide) rfl _ rfl (some ⟨g, 0, none⟩) 0 0 [] rfl (fun e => by cases e) rfl (fun ad e j u hj => by simp at hj) (fun u hu => by simp at hu) (by unfold maxLen; omega) (by omega) ?_)
            intro v8 w3 hown hg8
            have b3 := grown_below0 hg8
            obtain ⟨y8, c8, t8, rfl, hT, hpush⟩ := tree_new (wp := wp) (ts := ts) (M := []) (e := ⟨m, y, s, z, t⟩) (own := some g) (w.heap.size + 1) cv 0 HK.out hf HM.out ME.out HMi.out hown b3 (fun g' e => by cases e; have := BS.out; have := KS.out; omega) (by have := KS.out; have := BS.out; have := B8.out; omega)
            have TT := hid hT
            have PP := hid hpush
            have RW : Hid (TRow wp (w.heap.size + 1) w3 (.slice (some ⟨g, 0, none⟩) cv cv) (ts.take cv)) := hid ((RR.out.cut cv (by omega)).stay b3)
            replace K1 := hid (K1.out.below b3)
            replace KK := hid (KK.out.below b3)
            replace BB := hid (grown_on BB.out b3)
            replace KS := hid (Nat.lt_of_lt_of_le KS.out b3.size)
            obtain ⟨m0, m1, m2, m3⟩ := bl4 K1.out
            clear hown hg8 hT hpush b3 RR SP HK
            go_upto_region 9 with fail
            have l0 : ∀ s' : HasB wr.heap.size w3.heap[wr.heap.size]?, s'.val.cell? ⟨wr.heap.size, 0, none⟩ = some (.int .i64 m.op) := fun s' => (World.cell?_of_block (w := w3) (a := ⟨wr.heap.size, 0, none⟩) s'.has).trans m0
            have l1 : ∀ s' : HasB wr.heap.size w3.heap[wr.heap.size]?, s'.val.cell? ⟨wr.heap.size, 1, none⟩ = some (.int .i64 m.n) := fun s' => (World.cell?_of_block (w := w3) (a := ⟨wr.heap.size, 1, none⟩) s'.has).trans m1
            have l2 : ∀ s' : HasB wr.heap.size w3.heap[wr.heap.size]?, s'.val.cell? ⟨wr.heap.size, 2, none⟩ = some (.slice y m.N.length s) := fun s' => (World.cell?_of_block (w := w3) (a := ⟨wr.heap.size, 2, none⟩) s'.has).trans m2
            have l3 : ∀ s' : HasB wr.heap.size w3.heap[wr.heap.size]?, s'.val.cell? ⟨wr.heap.size, 3, none⟩ = some (.slice z m.A.length t) := fun s' => (World.cell?_of_block (w := w3) (a := ⟨wr.heap.size, 3, none⟩) s'.has).trans m3
            have hNe : Nonempty (HasB wr.heap.size w3.heap[wr.heap.size]?) := ⟨⟨w3, rfl⟩⟩
            clear m0 m1 m2 m3
            refine wp_region_pt (.qs [0, 1, 2, 3, 4, 5] (.one 6 (.one 7 (.one 8 .nil)))) (fun u => ∃ s' : HasB wr.heap.size w3.heap[wr.heap.size]?, u = s'.val) (by kernel_rfl) (by kernel_rfl) ?_
            refine ptL_qs ⟨⟨w3.drew, rfl⟩, rfl⟩ ?_
            change wpQuiet _ _ _ _ [_, _, _, _, _, _] _
            repeat (go_big_quiet_step (fail))
            refine wpQuiet_nil ?_
            refine stepL_at (by rfl) fun K Q' hK => ?_
            go_simp
            have NC := Bl.new 48 w3 #[.int .i64 m.op, .int .i64 m.n, .slice y m.N.length s, .slice z m.A.length t, .slice y8 0 c8]
            have HB := ((Below.refl w3.heap.size w3).alloc (Nat.le_refl _) (.cells #[.int .i64 m.op, .int .i64 m.n, .slice y m.N.length s, .slice z m.A.length t, .slice y8 0 c8] 48)).drew
            replace NC := NC.below (Below.refl _ _).drew
            generalize (w3.alloc (.cells #[.int .i64 m.op, .int .i64 m.n, .slice y m.N.length s, .slice z m.A.length t, .slice y8 0 c8] 48)).drew = w4 at *
            refine hK _ _ (fun _ => ⟨⟨_, HB.block _ KS.out⟩, rfl⟩) ?_
            clear hK
            refine stepL_at (by rfl) fun K Q' hK => ?_
            refine wp_append_tree (t := t8) (cs := tcells ⟨m, y, s, z, t⟩ y8 0 c8) (.tmp 30) (.tmp 34) rfl rfl rfl (RW.out.stay HB) (fun j u hj => NC.cell (by simpa [tcells] using hj)) (TT.out.below HB) (by rw [List.length_take]; omega) (by have := HP.out.size; omega) (by have := BB.out.size; have := HB.size; have := KS.out; have := BS.out; have := B8.out; omega) ?_
            intro v9 w5 hr9 hg9 hb9
            have hkeep : w5.heap[wr.heap.size]? = w3.heap[wr.heap.size]? := (hg9.block _ (Nat.lt_of_lt_of_le KS.out HB.size) (fun e => by have e2 : wr.heap.size = g := Option.some.inj e; omega)).trans (HB.block _ KS.out)
            refine hK _ _ (fun _ => ⟨⟨_, hkeep⟩, rfl⟩) ?_
            clear hK hkeep
            refine stepL_at (by rfl) fun K Q' hK => ?_
            go_simp
            have hkeep : w5.heap[wr.heap.size]? = w3.heap[wr.heap.size]? := (hg9.block _ (Nat.lt_of_lt_of_le KS.out HB.size) (fun e => by have e2 : wr.heap.size = g := Option.some.inj e; omega)).trans (HB.block _ KS.out)
            refine hK _ _ (fun _ => ⟨⟨_, hkeep⟩, rfl⟩) ?_
            clear hK hkeep
            refine ptL_nil ?_
            have NR : Hid (GrowRel wp r w v9 (.int .i64 ((i : Int) + 1)) w5) := hid ⟨i + 1, (ts.take cv) ++ [t8], by omega, by go_num, by rw [NX.out]; exact PP.out, by simp [List.length_take]; omega, hr9, blGrown (KK.out.below HB) hg9 (fun e => by have e2 : w.heap.size = g := Option.some.inj e; omega), (BB.out.trans (HB.mono BB.out.size)).trans (hb9.mono (Nat.le_succ _))⟩
            clear HB NC l0 l1 l2 l3 hNe hr9 hg9 hb9
            go_wp2_with fail
            exact ⟨NR.out, by simp [intOf]; omega⟩
          · go_wp2_with (at_builtin; refine wpList_copy 46 48 i0 (.agg #[.int .i64 0, .int .i64 0, .slice none 0 0, .slice none 0 0, .slice none 0 0]) 5 88 Try.underlying46 hi0 hz0 hz1 hz2 rfl (by decide) rfl _ rfl (some ⟨g, f * 5, none⟩) 0 (cv - f) [] rfl (fun e => by cases e) rfl (fun ad e j u hj => by simp at hj) (fun u hu => by simp at hu) (by unfold maxLen; omega) (by omega) ?_)
            intro v8 w3 hown hg8
            have b3 := grown_below0 hg8
            obtain ⟨y8, c8, t8, rfl, hT, hpush⟩ := tree_new (wp := wp) (ts := ts) (M := []) (e := ⟨m, y, s, z, t⟩) (own := some g) (w.heap.size + 1) f 0 HK.out hf HM.out ME.out HMi.out hown b3 (fun g' e => by cases e; have := BS.out; have := KS.out; omega) (by have := KS.out; have := BS.out; have := B8.out; omega)
            have TT := hid hT
            have PP := hid hpush
            have RW : Hid (TRow wp (w.heap.size + 1) w3 (.slice (some ⟨g, 0, none⟩) f cv) (ts.take f)) := hid ((RR.out.cut f (by omega)).stay b3)
            replace K1 := hid (K1.out.below b3)
            replace KK := hid (KK.out.below b3)
            replace BB := hid (grown_on BB.out b3)
            replace KS := hid (Nat.lt_of_lt_of_le KS.out b3.size)
            obtain ⟨m0, m1, m2, m3⟩ := bl4 K1.out
            clear hown hg8 hT hpush b3 RR SP HK
            go_upto_region 9 with fail
            have l0 : ∀ s' : HasB wr.heap.size w3.heap[wr.heap.size]?, s'.val.cell? ⟨wr.heap.size, 0, none⟩ = some (.int .i64 m.op) := fun s' => (World.cell?_of_block (w := w3) (a := ⟨wr.heap.size, 0, none⟩) s'.has).trans m0
            have l1 : ∀ s' : HasB wr.heap.size w3.heap[wr.heap.size]?, s'.val.cell? ⟨wr.heap.size, 1, none⟩ = some (.int .i64 m.n) := fun s' => (World.cell?_of_block (w := w3) (a := ⟨wr.heap.size, 1, none⟩) s'.has).trans m1
            have l2 : ∀ s' : HasB wr.heap.size w3.heap[wr.heap.size]?, s'.val.cell? ⟨wr.heap.size, 2, none⟩ = some (.slice y m.N.length s) := fun s' => (World.cell?_of_block (w := w3) (a := ⟨wr.heap.size, 2, none⟩) s'.has).trans m2
            have l3 : ∀ s' : HasB wr.heap.size w3.heap[wr.heap.size]?, s'.val.cell? ⟨wr.heap.size, 3, none⟩ = some (.slice z m.A.length t) := fun s' => (World.cell?_of_block (w := w3) (a := ⟨wr.heap.size, 3, none⟩) s'.has).trans m3
            have hNe : Nonempty (HasB wr.heap.size w3.heap[wr.heap.size]?) := ⟨⟨w3, rfl⟩⟩
            clear m0 m1 m2 m3
            refine wp_region_pt (.qs [0, 1, 2, 3, 4, 5] (.one 6 (.one 7 (.one 8 .nil)))) (fun u => ∃ s' : HasB wr.heap.size w3.heap[wr.heap.size]?, u = s'.val) (by kernel_rfl) (by kernel_rfl) ?_
            refine ptL_qs ⟨⟨w3.drew, rfl⟩, rfl⟩ ?_
            change wpQuiet _ _ _ _ [_, _, _, _, _, _] _
            repeat (go_big_quiet_step (fail))
            refine wpQuiet_nil ?_
            refine stepL_at (by rfl) fun K Q' hK => ?_
            go_simp
            have NC := Bl.new 48 w3 #[.int .i64 m.op, .int .i64 m.n, .slice y m.N.length s, .slice z m.A.length t, .slice y8 0 c8]
            have HB := ((Below.refl w3.heap.size w3).alloc (Nat.le_refl _) (.cells #[.int .i64 m.op, .int .i64 m.n, .slice y m.N.length s, .slice z m.A.length t, .slice y8 0 c8] 48)).drew
            replace NC := NC.below (Below.refl _ _).drew
            generalize (w3.alloc (.cells #[.int .i64 m.op, .int .i64 m.n, .slice y m.N.length s, .slice z m.A.length t, .slice y8 0 c8] 48)).drew = w4 at *
            refine hK _ _ (fun _ => ⟨⟨_, HB.block _ KS.out⟩, rfl⟩) ?_
            clear hK
            refine stepL_at (by rfl) fun K Q' hK => ?_
            refine wp_append_tree (t := t8) (cs := tcells ⟨m, y, s, z, t⟩ y8 0 c8) (.tmp 30) (.tmp 34) rfl rfl rfl (RW.out.stay HB) (fun j u hj => NC.cell (by simpa [tcells] using hj)) (TT.out.below HB) (by rw [List.length_take]; omega) (by have := HP.out.size; omega) (by have := BB.out.size; have := HB.size; have := KS.out; have := BS.out; have := B8.out; omega) ?_
            intro v9 w5 hr9 hg9 hb9
            have hkeep : w5.heap[wr.heap.size]? = w3.heap[wr.heap.size]? := (hg9.block _ (Nat.lt_of_lt_of_le KS.out HB.size) (fun e => by have e2 : wr.heap.size = g := Option.some.inj e; omega)).trans (HB.block _ KS.out)
            refine hK _ _ (fun _ => ⟨⟨_, hkeep⟩, rfl⟩) ?_
            clear hK hkeep
            refine stepL_at (by rfl) fun K Q' hK => ?_
            go_simp
            have hkeep : w5.heap[wr.heap.size]? = w3.heap[wr.heap.size]? := (hg9.block _ (Nat.lt_of_lt_of_le KS.out HB.size) (fun e => by have e2 : wr.heap.size = g := Option.some.inj e; omega)).trans (HB.block _ KS.out)
            refine hK _ _ (fun _ => ⟨⟨_, hkeep⟩, rfl⟩) ?_
            clear hK hkeep
            refine ptL_nil ?_
            have NR : Hid (GrowRel wp r w v9 (.int .i64 ((i : Int) + 1)) w5) := hid ⟨i + 1, (ts.take f) ++ [t8], by omega, by go_num, by rw [NX.out]; exact PP.out, by simp [List.length_take]; omega, hr9, blGrown (KK.out.below HB) hg9 (fun e => by have e2 : w.heap.size = g := Option.some.inj e; omega), (BB.out.trans (HB.mono BB.out.size)).trans (hb9.mono (Nat.le_succ _))⟩
            clear HB NC l0 l1 l2 l3 hNe hr9 hg9 hb9
            go_wp2_with fail
            exact ⟨NR.out, by simp [intOf]; omega⟩
        · have hcv : ¬ cv = f := by omega
          go_wp2_with (at_builtin; refine wpList_copy 46 48 i0 (.agg #[.int .i64 0, .int .i64 0, .slice none 0 0, .slice none 0 0, .slice none 0 0]) 5 88 Try.underlying46 hi0 hz0 hz1 hz2 rfl (by decide) rfl _ rfl (some ⟨g, f * 5, none⟩) k (cv - f) (M.flatMap Prod.fst) rfl (fun e => by cases e) (by rw [HMl.out, show ts.length - f = k by omega]) (fun ad e => by cases e; exact HMc.out) HMo.out (by unfold maxLen; omega) (by omega) ?_)
          intro v8 w3 hown hg8
          have b3 := grown_below0 hg8
          obtain ⟨y8, c8, t8, rfl, hT, hpush⟩ := tree_new (wp := wp) (ts := ts) (M := M) (e := ⟨m, y, s, z, t⟩) (own := some g) (w.heap.size + 1) f k HK.out hf HM.out ME.out HMi.out hown b3 (fun g' e => by cases e; have := BS.out; have := KS.out; omega) (by have := KS.out; have := BS.out; have := B8.out; omega)
          have TT := hid hT
          have PP := hid hpush
          have RW : Hid (TRow wp (w.heap.size + 1) w3 (.slice (some ⟨g, 0, none⟩) f cv) (ts.take f)) := hid ((RR.out.cut f (by omega)).stay b3)
          replace K1 := hid (K1.out.below b3)
          replace KK := hid (KK.out.below b3)
          replace BB := hid (grown_on BB.out b3)
          replace KS := hid (Nat.lt_of_lt_of_le KS.out b3.size)
          obtain ⟨m0, m1, m2, m3⟩ := bl4 K1.out
          clear hown hg8 hT hpush b3 RR SP HK
          go_upto_region 9 with fail
          have l0 : ∀ s' : HasB wr.heap.size w3.heap[wr.heap.size]?, s'.val.cell? ⟨wr.heap.size, 0, none⟩ = some (.int .i64 m.op) := fun s' => (World.cell?_of_block (w := w3) (a := ⟨wr.heap.size, 0, none⟩) s'.has).trans m0
          have l1 : ∀ s' : HasB wr.heap.size w3.heap[wr.heap.size]?, s'.val.cell? ⟨wr.heap.size, 1, none⟩ = some (.int .i64 m.n) := fun s' => (World.cell?_of_block (w := w3) (a := ⟨wr.heap.size, 1, none⟩) s'.has).trans m1
          have l2 : ∀ s' : HasB wr.heap.size w3.heap[wr.heap.size]?, s'.val.cell? ⟨wr.heap.size, 2, none⟩ = some (.slice y m.N.length s) := fun s' => (World.cell?_of_block (w := w3) (a := ⟨wr.heap.size, 2, none⟩) s'.has).trans m2
          have l3 : ∀ s' : HasB wr.heap.size w3.heap[wr.heap.size]?, s'.val.cell? ⟨wr.heap.size, 3, none⟩ = some (.slice z m.A.length t) := fun s' => (World.cell?_of_block (w := w3) (a := ⟨wr.heap.size, 3, none⟩) s'.has).trans m3
          have hNe : Nonempty (HasB wr.heap.size w3.heap[wr.heap.size]?) := ⟨⟨w3, rfl⟩⟩
          clear m0 m1 m2 m3
          refine wp_region_pt (.qs [0, 1, 2, 3, 4, 5] (.one 6 (.one 7 (.one 8 .nil)))) (fun u => ∃ s' : HasB wr.heap.size w3.heap[wr.heap.size]?, u = s'.val) (by kernel_rfl) (by kernel_rfl) ?_
          refine ptL_qs ⟨⟨w3.drew, rfl⟩, rfl⟩ ?_
          change wpQuiet _ _ _ _ [_, _, _, _, _, _] _
          repeat (go_big_quiet_step (fail))
          refine wpQuiet_nil ?_
          refine stepL_at (by rfl) fun K Q' hK => ?_
          go_simp
          have NC := Bl.new 48 w3 #[.int .i64 m.op, .int .i64 m.n, .slice y m.N.length s, .slice z m.A.length t, .slice y8 k c8]
          have HB := ((Below.refl w3.heap.size w3).alloc (Nat.le_refl _) (.cells #[.int .i64 m.op, .int .i64 m.n, .slice y m.N.length s, .slice z m.A.length t, .slice y8 k c8] 48)).drew
          replace NC := NC.below (Below.refl _ _).drew
          generalize (w3.alloc (.cells #[.int .i64 m.op, .int .i64 m.n, .slice y m.N.length s, .slice z m.A.length t, .slice y8 k c8] 48)).drew = w4 at *
          refine hK _ _ (fun _ => ⟨⟨_, HB.block _ KS.out⟩, rfl⟩) ?_
          clear hK
          refine stepL_at (by rfl) fun K Q' hK => ?_
          refine wp_append_tree (t := t8) (cs := tcells ⟨m, y, s, z, t⟩ y8 k c8) (.tmp 30) (.tmp 34) rfl rfl rfl (RW.out.stay HB) (fun j u hj => NC.cell (by simpa [tcells] using hj)) (TT.out.below HB) (by rw [List.length_take]; omega) (by have := HP.out.size; omega) (by have := BB.out.size; have := HB.size; have := KS.out; have := BS.out; have := B8.out; omega) ?_
          intro v9 w5 hr9 hg9 hb9
          have hkeep : w5.heap[wr.heap.size]? = w3.heap[wr.heap.size]? := (hg9.block _ (Nat.lt_of_lt_of_le KS.out HB.size) (fun e => by have e2 : wr.heap.size = g := Option.some.inj e; omega)).trans (HB.block _ KS.out)
          refine hK _ _ (fun _ => ⟨⟨_, hkeep⟩, rfl⟩) ?_
          clear hK hkeep
          refine stepL_at (by rfl) fun K Q' hK => ?_
          go_simp
          have hkeep : w5.heap[wr.heap.size]? = w3.heap[wr.heap.size]? := (hg9.block _ (Nat.lt_of_lt_of_le KS.out HB.size) (fun e => by have e2 : wr.heap.size = g := Option.some.inj e; omega)).trans (HB.block _ KS.out)
          refine hK _ _ (fun _ => ⟨⟨_, hkeep⟩, rfl⟩) ?_
          clear hK hkeep
          refine ptL_nil ?_
          have NR : Hid (GrowRel wp r w v9 (.int .i64 ((i : Int) + 1)) w5) := hid ⟨i + 1, (ts.take f) ++ [t8], by omega, by go_num, by rw [NX.out]; exact PP.out, by simp [List.length_take]; omega, hr9, blGrown (KK.out.below HB) hg9 (fun e => by have e2 : w.heap.size = g := Option.some.inj e; omega), (BB.out.trans (HB.mono BB.out.size)).trans (hb9.mono (Nat.le_succ _))⟩
          clear HB NC l0 l1 l2 l3 hNe hr9 hg9 hb9
          go_wp2_with fail
          exact ⟨NR.out, by simp [intOf]; omega⟩

end Go.Proofs.Ytnbabdfcamdapaa.Ru
