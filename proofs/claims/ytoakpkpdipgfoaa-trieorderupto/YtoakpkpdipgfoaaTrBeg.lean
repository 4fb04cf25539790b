/-
  The walks of the statements' own begins and tried: beginnings in memory.
-/
import Derived.Test.YtoakpkpdipgfoaaTrRow
import Derived.Test.YtoakpkpdipgfoaaTrieG
namespace Go.Proofs.Ytoakpkpdipgfoaa
open Go.RowKit Go.Deep

theorem info_begin : (Try.prog.info? 36).map (fun i => (i.zero, i.size, i.bytes)) = some (some (.agg #[.slice none 0 0, .int .i64 0, .int .i64 0]), 3, 40) := by kernel_rfl

theorem info_of_begin : ∃ i, Try.prog.info? 36 = some i ∧ i.zero = some (.agg #[.slice none 0 0, .int .i64 0, .int .i64 0]) ∧ i.size = 3 ∧ i.bytes = 40 := info_parts info_begin

instance : Inhabited Bv := ⟨⟨none, 0, []⟩⟩

/-- A beginning: an address, how many of its bits, a value. -/
structure Bg where
  e : Bv
  n : Int
  val : Int

def bcells (b : Bg) : List Value := [b.e.v, .int .i64 b.n, .int .i64 b.val]

def begF (L : List Bv) (ns : List Int) (i : Nat) : Bg := ⟨L.getD i default, ns.getD i 0, (i : Int)⟩

/-- The first k of two lists' beginnings. -/
def begN (L : List Bv) (ns : List Int) (k : Nat) : List Bg := (List.range k).map (begF L ns)

theorem begN_len (L : List Bv) (ns : List Int) (k : Nat) : (begN L ns k).length = k := by simp [begN]

theorem begN_get (L : List Bv) (ns : List Int) (k i : Nat) (h : i < (begN L ns k).length) : (begN L ns k)[i] = begF L ns i := by simp [begN]

theorem begN_succ (L : List Bv) (ns : List Int) (k : Nat) : begN L ns (k + 1) = begN L ns k ++ [begF L ns k] := by
  unfold begN
  rw [List.range_succ, List.map_append]
  rfl

theorem bflat_len (l : List Bg) : (l.flatMap bcells).length = l.length * 3 := by
  induction l with
  | nil => rfl
  | cons x l ih => rw [List.flatMap_cons, List.length_append, ih, List.length_cons]; simp [bcells]; omega

theorem bflat_get (l : List Bg) : ∀ (i j : Nat) (hi : i < l.length), j < 3 → (l.flatMap bcells)[i * 3 + j]? = (bcells l[i])[j]? := by
  induction l with
  | nil => intro i j hi; simp at hi
  | cons x l ih =>
    intro i j hi hj
    rw [List.flatMap_cons]
    cases i with
    | zero => rw [Nat.zero_mul, Nat.zero_add, List.getElem?_append_left (by simp [bcells]; exact hj)]; rfl
    | succ i =>
      have e0 : (bcells x).length = 3 := rfl
      rw [List.getElem?_append_right (by rw [e0]; omega), e0, show (i + 1) * 3 + j - 3 = i * 3 + j by omega, ih i j (by simpa using hi) hj]
      rfl

/-- Beginnings in a row of the call's own. -/
def BRow (w : World) (B : Nat) (v : Value) (l : List Bg) : Prop := w.ownsRow B 36 3 v l.length (l.flatMap bcells)

/-- A slice of beginnings: where its cells lie. -/
def Bgs (w : World) (B : Nat) (x : Option Addr) (c : Nat) (l : List Bg) : Prop :=
  l.length ≤ c ∧ (l = [] ∨ ∃ g cur, x = some ⟨g, 0, none⟩ ∧ B ≤ g ∧ w.heap[g]? = some (.cells cur 36 (0, 0)) ∧ ∀ i (h : i < l.length), cur[i * 3]? = some (l[i]).e.v ∧ cur[i * 3 + 1]? = some (.int .i64 (l[i]).n) ∧ cur[i * 3 + 2]? = some (.int .i64 (l[i]).val))

theorem BRow.bgs {w : World} {B : Nat} {v : Value} {l : List Bg} (h : BRow w B v l) : ∃ x c, v = .slice x l.length c ∧ Bgs w B x c l := by
  obtain ⟨_, h3⟩ := h
  rcases h3 with ⟨rfl, h4⟩ | ⟨g, cap, cur, rfl, hgB, hh, hn, _, hs, ht⟩
  · have : l = [] := List.length_eq_zero_iff.1 h4
    subst this
    exact ⟨none, 0, rfl, Nat.zero_le _, Or.inl rfl⟩
  · refine ⟨_, cap, rfl, hn, Or.inr ⟨g, cur, rfl, hgB, hh, fun i hi => ?_⟩⟩
    have key : ∀ j, j < 3 → cur[i * 3 + j]? = (bcells l[i])[j]? := by
      intro j hj
      rw [← bflat_get l i j hi hj, ← ht, List.getElem?_take_of_lt (by omega)]
      simp
    exact ⟨key 0 (by decide), key 1 (by decide), key 2 (by decide)⟩

theorem Bgs.same {w w' : World} {B : Nat} {x : Option Addr} {c : Nat} {l : List Bg} (h : Bgs w B x c l) (k : ∀ g, (∃ o, x = some ⟨g, o, none⟩) → B ≤ g → g < w.heap.size → w'.heap[g]? = w.heap[g]?) : Bgs w' B x c l := by
  obtain ⟨h1, h2⟩ := h
  refine ⟨h1, ?_⟩
  rcases h2 with h2 | ⟨g, cur, hx, hB, hh, hc⟩
  · exact Or.inl h2
  · refine Or.inr ⟨g, cur, hx, hB, ?_, hc⟩
    have hlt : g < w.heap.size := by
      rcases Nat.lt_or_ge g w.heap.size with q | q
      · exact q
      · rw [Array.getElem?_eq_none q] at hh; cases hh
    rw [k g ⟨_, hx⟩ hB hlt, hh]

theorem Bgs.below {w w' : World} {B : Nat} {x : Option Addr} {c : Nat} {l : List Bg} (h : Bgs w B x c l) (k : Below w.heap.size w w') : Bgs w' B x c l := h.same fun g _ _ hg => k.block g hg

/-- What begins hands back. -/
def BegP (w : World) (L : List Bv) (ns : List Int) (e : Ending) (w' : World) : Prop :=
  ∃ x c, e = .returned (.slice x (min L.length ns.length) c) ∧ Bgs w' w.heap.size x c (begN L ns (min L.length ns.length)) ∧ Below w.heap.size w w'

set_option maxHeartbeats 2000000 in
set_option maxRecDepth 100000 in
theorem begins_any {x y : Option Addr} {c d l m : Nat} (L : List Bv) (ns : List Int) (w : World) (h : Byss w x c L) (hn : Ints w y d ns) (hl : L.length = l) (hm : ns.length = m) (hbd : L.length ≤ 5000000000000 ∨ ns.length ≤ 5000000000000) :
    Calls Try.prog 6 #[.slice x l c, .slice y m d] w (BegP w L ns) := by
  subst hl hm
  obtain ⟨i0, hi, hz0, hz1, hz2⟩ := info_of_begin
  have hL1 : L.length ≤ 6000000000000 := h.2.1
  have hN1 : ns.length ≤ 17592186044416 := hn.2.1
  have HH := hid h
  have HN := hid hn
  clear h hn
  go_enter Try.func6, Try.ntmps6
  go_wp2
  go_loopw [5, 6] (fun v i wr => ∃ k : Nat, k ≤ min L.length ns.length ∧ i = .int .i64 (k : Int) ∧ BRow wr w.heap.size v (begN L ns k) ∧ Below w.heap.size w wr) (fun _ i _ => L.length - (intOf i).toNat)
  case atStart => exact ⟨0, Nat.zero_le _, rfl, World.ownsRow_nil _ _ _ _, Below.refl _ _⟩
  case round =>
    obtain ⟨k, hk, rfl, hrow, hbel⟩ := hrel
    by_cases c1 : k < L.length
    · by_cases c2 : k < ns.length
      · have c1' : (k : Int) < (L.length : Int) := by omega
        have c2' : (k : Int) < (ns.length : Int) := by omega
        have hE : begF L ns k = ⟨L[k], ns.getD k 0, (k : Int)⟩ := by
          unfold begF
          rw [List.getD_eq_getElem?_getD, List.getElem?_eq_getElem c1]
          rfl
        obtain ⟨_, _, _, dL⟩ := HH.out
        rcases dL with dL | ⟨ba, oa, rfl, hba, qa⟩
        · rw [dL] at c1; simp at c1
        obtain ⟨_, _, _, dN⟩ := HN.out
        rcases dN with dN | ⟨bn, on, rfl, hbn, qn⟩
        · rw [dN] at c2; simp at c2
        have q1 := qa k c1
        have q2 := qn k c2
        have HSC := hid (begN_succ L ns k)
        rw [hE] at HSC
        have hll := begN_len L ns k
        have HROW := hid hrow
        have HB := hid hbel
        clear qa qn hrow hbel hE
        generalize L[k] = E at *
        generalize ns.getD k 0 = N at *
        generalize hR : begN L ns k = R at *
        have q1' : w.cell? ⟨ba, oa + k, none⟩ = some (.slice E.x E.A.length E.c) := q1
        have hl1 : ∀ s' : Kept w.heap.size w, s'.val.cell? ⟨ba, oa + k, none⟩ = some (.slice E.x E.A.length E.c) := fun s' => by rw [s'.keeps.cell (p := ⟨ba, oa + k, none⟩) hba]; exact q1'
        have hl2 : ∀ s' : Kept w.heap.size w, s'.val.cell? ⟨bn, on + k, none⟩ = some (.int .i64 N) := fun s' => by rw [s'.keeps.cell (p := ⟨bn, on + k, none⟩) hbn]; exact q2
        have hNe : Nonempty (Kept w.heap.size w) := ⟨⟨w, Below.refl _ _⟩⟩
        clear q1 q1' q2
        have HRR := hid hR
        clear hR
        go_upto_region 5 with fail
        refine wp_region_forkA [0, 1, 2, 3, 4, 5, 6, 7, 8, 9] (.one 10 (.one 11 (.one 12 (.one 13 .nil)))) (fun u => ∃ s' : Kept w.heap.size w, u = s'.val) (by kernel_rfl) (by kernel_rfl) (by kernel_rfl) ⟨⟨_, HB.out.drew⟩, rfl⟩ ?_
        change wpQuiet _ _ _ _ [_, _, _, _, _, _, _, _, _, _] _
        repeat (go_big_quiet_step (fail))
        refine wpQuiet_nil ?_
        clear hl1 hl2 hNe
        have HB1 : Below w.heap.size w wr.drew := HB.out.drew
        have HR1 : BRow wr.drew w.heap.size u5 R := HROW.out
        generalize wr.drew = w1 at *
        change stepL _ _ _ _ _ _ _ _ _
        refine stepL_at (by rfl) fun K Q' hK => ?_
        go_simp
        refine hK _ _ (fun _ => ⟨⟨_, HB1⟩, rfl⟩) ?_
        clear hK
        change stepL _ _ _ _ _ _ _ _ _
        refine stepL_at (by rfl) fun K Q' hK => ?_
        go_simp
        have hle1 : w.heap.size ≤ w1.heap.size := HB1.size
        have HB2 := HB1.alloc hle1 (.cells #[.slice E.x E.A.length E.c, .int .i64 N, .int .i64 (k : Int)] 36)
        refine hK _ _ (fun _ => ⟨⟨_, HB2⟩, rfl⟩) ?_
        clear hK
        change stepL _ _ _ _ _ _ _ _ _
        refine stepL_at (by rfl) fun K Q' hK => ?_
        have HR2 : (w1.alloc (.cells #[.slice E.x E.A.length E.c, .int .i64 N, .int .i64 (k : Int)] 36)).ownsRow w.heap.size 36 3 u5 R.length (R.flatMap bcells) := HR1.alloc _
        have hsz2 : (w1.alloc (.cells #[.slice E.x E.A.length E.c, .int .i64 N, .int .i64 (k : Int)] 36)).heap.size = w1.heap.size + 1 := by simp
        refine wp_append_own_wide _ (.tmp 19) (.tmp 30) 25 rfl w.heap.size 36 i0 _ 3 40 Try.underlying25 hi hz0 hz1 hz2 rfl (by decide) u5 R.length _ rfl HR2 ⟨w1.heap.size, 0, none⟩ 1 1 [.slice E.x E.A.length E.c, .int .i64 N, .int .i64 (k : Int)] rfl rfl (cells_new w1 [.slice E.x E.A.length E.c, .int .i64 N, .int .i64 (k : Int)] 36) (by simp [Value.oneCell']) (by unfold maxLen; omega) (by omega) (by omega) ?_
        intro v' w2 hown hgr _
        have BR : Hid (BRow w2 w.heap.size v' (begN L ns (k + 1))) := hid (by
          rw [HSC.out]
          unfold BRow
          rw [List.length_append, List.flatMap_append]
          exact hown)
        have B2 : Hid (Below w.heap.size w w2) := hid (HB2.grown hgr (by omega) (fun g q => by
          rcases HR2.2 with ⟨e, _⟩ | ⟨g', cap, cur, e, hg, _⟩
          · rw [e] at q; cases q
          · rw [e] at q; simp [Value.ownBlock] at q; omega))
        refine hK _ _ (fun _ => ⟨⟨_, B2.out⟩, rfl⟩) ?_
        clear hK hown hgr HR2 HB2 HR1 HB1 hle1 hsz2
        change stepL _ _ _ _ _ _ _ _ _
        refine stepL_at (by rfl) fun K Q' hK => ?_
        go_simp
        refine hK _ _ (fun _ => ⟨⟨_, B2.out⟩, rfl⟩) ?_
        clear hK
        refine treeL_nil ?_
        go_wp2
        go_roundw
        case rel => exact ⟨k + 1, by omega, by go_num, BR.out, B2.out⟩
        case measure => simp [intOf]; omega
      · have c1' : (k : Int) < (L.length : Int) := by omega
        have c2' : ¬ (k : Int) < (ns.length : Int) := by omega
        obtain rfl : k = min L.length ns.length := by omega
        obtain ⟨x', c', rfl, hb⟩ := hrow.bgs
        rw [begN_len]
        go_wp2
        go_ret
        exact ⟨x', c', rfl, hb, hbel⟩
    · have c1' : ¬ (k : Int) < (L.length : Int) := by omega
      obtain rfl : k = min L.length ns.length := by omega
      obtain ⟨x', c', rfl, hb⟩ := hrow.bgs
      rw [begN_len]
      go_wp2
      go_ret
      exact ⟨x', c', rfl, hb, hbel⟩

end Go.Proofs.Ytoakpkpdipgfoaa
