/-
  The law TriePuts: its walk.
-/
import Derived.Test.YtoakpkpdipgfoaaTrTried
import Derived.Test.YtoakpkpdipgfoaaRefS2
namespace Go.Proofs.Ytoakpkpdipgfoaa
open Go.RowKit Go.Deep

/-- Worlds in which a block is as it was. -/
structure Has (g : Nat) (o : Option Obj) where
  val : World
  has : val.heap[g]? = o

theorem Has.cell {g : Nat} {w : World} (s : Has g w.heap[g]?) (i : Nat) : s.val.cell? ⟨g, i, none⟩ = w.cell? ⟨g, i, none⟩ := World.cell?_of_block (w := w) s.has

/-- The first sixteen bytes of some bytes. -/
theorem Bys.take_of {w u : World} {x : Option Addr} {c : Nat} {Q : List Int} (h : Bys w x c Q) (k : Below w.heap.size w u) : Bys u x c (Q.take 16) := by
  obtain ⟨h1, h2, h3, h4⟩ := h.below k
  refine ⟨by rw [List.length_take]; omega, by rw [List.length_take]; omega, fun b hb => h3 b (List.mem_of_mem_take hb), ?_⟩
  rcases h4 with h4 | ⟨b, off, hx, hb, hc⟩
  · left; rw [h4]; rfl
  · refine Or.inr ⟨b, off, hx, hb, fun i hi => ?_⟩
    rw [List.length_take] at hi
    rw [hc i (by omega)]
    rw [List.getD_eq_getElem?_getD, List.getD_eq_getElem?_getD, List.getElem?_take_of_lt (by omega)]

theorem take_bit {Q : List Int} {i : Nat} (h : i < 128) : bitN (padN (Q.take 16)) i = bitN Q i := by
  rw [padN_bit, byt_bit, byt_bit]
  unfold byt
  rw [List.getD_eq_getElem?_getD, List.getD_eq_getElem?_getD, List.getElem?_take_of_lt (by omega)]

theorem take_al {A Q : List Int} {N : Nat} (h : N ≤ 128) : Al A Q N ↔ Al A (padN (Q.take 16)) N := by
  constructor
  · intro z i hi; rw [take_bit (by omega)]; exact z i hi
  · intro z i hi; rw [z i hi, take_bit (by omega)]

/-- The state of a law's tries: T lies at tb, all else of w3 is as it was. -/
structure TrieL (w3 wr : World) (tb : Nat) (T : Tn) (j : Nat) : Prop where
  st : TrieS wr tb T
  len : T.ents.length ≤ j
  new : ∀ b ∈ T.blks, w3.heap.size ≤ b
  only : Only [tb] w3 wr

theorem TrieL.put {w3 wr w' : World} {tb : Nat} {T T' : Tn} {j : Nat} (h : TrieL w3 wr tb T j) (s : TrieS w' tb T') (hl : T'.ents.length ≤ j + 1) (o : Only (tb :: T.blks) wr w') (n : ∀ x ∈ T'.blks, x ∈ T.blks ∨ wr.heap.size ≤ x) : TrieL w3 w' tb T' (j + 1) :=
  ⟨s, hl, fun b hb => by
    rcases n b hb with q | q
    · exact h.new b q
    · exact Nat.le_trans h.only.size q, h.only.trans o (fun x hx => by
    rcases List.mem_cons.1 hx with rfl | q
    · left; simp
    · right; exact h.new x q)⟩

theorem TrieL.grow {w3 wr w' : World} {tb : Nat} {T : Tn} {j : Nat} (h : TrieL w3 wr tb T j) (d : Below wr.heap.size wr w') : TrieL w3 w' tb T j :=
  ⟨h.st.below d, h.len, h.new, h.only.grow d⟩

theorem Upd.len {T T' : Tn} {A : List Int} {n : Nat} {val : Int} (u : Upd T T' A n val) : T'.ents.length ≤ T.ents.length + 1 := by
  by_cases c : ∃ e ∈ T.ents, e.2.1 = n ∧ Al e.1 A n
  · rw [u.old c]; omega
  · rw [u.fresh c]; exact Nat.le_refl _

/-- What a Put of any beginning makes of a law's trie. -/
def PutL (w3 w : World) (tb : Nat) (T : Tn) (j : Nat) (A : List Int) (n val : Int) (e : Ending) (w' : World) : Prop :=
  (∃ N : Nat, n = (N : Int) ∧ A.length ≤ 16 ∧ N ≤ 8 * A.length ∧ e = .returned .nilIface ∧ ∃ T', TrieL w3 w' tb T' (j + 1) ∧ Upd T T' A N val) ∨
    (¬ (A.length ≤ 16 ∧ 0 ≤ n ∧ n ≤ 8 * (A.length : Int)) ∧ e = .returned (errV 6) ∧ TrieL w3 w' tb T (j + 1) ∧ w = w')

theorem put_law {w3 wr : World} {tb : Nat} {T : Tn} {j : Nat} (h : TrieL w3 wr tb T j) {x : Option Addr} {c l : Nat} (A : List Int) (n val : Int) (ha : Bys wr x c A) (hl : A.length = l) (hj : j ≤ 1000000000) :
    Calls Try.prog 9 #[.pointer (some ⟨tb, 0, none⟩), .slice x l c, .int .i64 n, .int .i64 val] wr (PutL w3 wr tb T j A n val) := by
  by_cases cr : A.length ≤ 16 ∧ 0 ≤ n ∧ n ≤ 8 * (A.length : Int)
  · obtain ⟨N, rfl⟩ : ∃ N : Nat, n = (N : Int) := ⟨n.toNat, by omega⟩
    refine (tput_good tb T A N val wr h.st ha hl cr.1 (by omega) (by have := h.len; omega)).mono ?_
    rintro e w' ⟨rfl, T', s, u, o, nn⟩
    exact Or.inl ⟨N, rfl, cr.1, by omega, rfl, T', h.put s (by have := u.len; have := h.len; omega) o nn, u⟩
  · refine (tput_bad tb n val wr (by rw [← hl]; exact ha.2.1) (by omega)).mono ?_
    rintro e w' ⟨rfl, rfl⟩
    exact Or.inr ⟨cr, rfl, ⟨h.st, by have := h.len; omega, h.new, h.only⟩, rfl⟩

set_option maxHeartbeats 8000000 in
set_option maxRecDepth 100000 in
theorem tputs_walk {xa xn xd xk : Option Addr} {ca la cn ln cd ld ck lk : Nat} (L : List Bv) (ns A : List Int) (n : Int) (Q : List Int) (w : World) (hL : Byss w xa ca L) (hns : Ints w xn cn ns) (hA' : Bys w xd cd A) (hQ' : Bys w xk ck Q)
    (jl : L.length = la) (jn : ns.length = ln) (jd : A.length = ld) (jk : Q.length = lk) (hx : xk = none → ck = 0) (hbd : L.length ≤ 5000000000000 ∨ ns.length ≤ 5000000000000) :
    Calls Try.prog 4 #[.slice xa la ca, .slice xn ln cn, .slice xd ld cd, .int .i64 n, .slice xk lk ck] w fun e w' => e = .returned (.bool true) ∧ Below w.heap.size w w' := by
  subst jl jn jd jk
  have HL := hid hL
  have HN := hid hns
  have hA := hid hA'
  have hQ := hid hQ'
  have HQx := hid hx
  have HQc := hid hQ'.1
  have hQl := hQ'.2.1
  have hAl := hA'.2.1
  clear hL hns hA' hQ' hx
  go_enter Try.func4, Try.ntmps4
  go_upto_region 5 with (first | (go_at_call 5; refine (tried_any _).mono ?_; rintro e w1 ⟨rfl, d1⟩) | (go_at_call 8; refine (new_at _).mono ?_; rintro e w2 ⟨rfl, k2, d2⟩))
  have S2 := hid (TrieS.new k2)
  have B2 := hid (d1.trans (d2.mono d1.size))
  have htb : w.heap.size ≤ w1.heap.size := d1.size
  have htl := k2.lt
  generalize w1.heap.size = tb at *
  clear d1 k2 d2
  have CB := hid (begins_any (x := xa) (c := ca) (l := L.length) (y := xn) (d := cn) (m := ns.length) L ns w2 (HL.out.below B2.out) (HN.out.below B2.out) rfl rfl hbd)
  go_upto_region 6 with (go_at_call 6; refine CB.out.mono ?_; rintro e w3 ⟨xb, cb, rfl, hbg, d3⟩)
  obtain ⟨k, hk⟩ : ∃ k, min L.length ns.length = k := ⟨_, rfl⟩
  rw [hk] at hbg ⊢
  have HBG := hid hbg
  have B3 := hid (B2.out.trans (d3.mono B2.out.size))
  have hw3 : w.heap.size ≤ w3.heap.size := B3.out.size
  have hw23 : w2.heap.size ≤ w3.heap.size := d3.size
  have TL0 : TrieL w3 w3 tb .nil 0 := ⟨S2.out.below d3, by simp [Tn.ents], fun b hb => by simp [Tn.blks] at hb, Only.refl _ _⟩
  have HT0 := hid TL0
  clear hbg CB d3 TL0
  by_cases c60 : 60 < k
  · have c60' : (60 : Int) < (k : Int) := by omega
    go_wp2
    go_ret
    exact ⟨rfl, B3.out⟩
  · have c60' : (k : Int) ≤ 60 := by omega
    go_upto_region 8 with fail
    go_wp2
    go_loopw [14] (fun i wr => ∃ j T, j ≤ k ∧ i = .int .i64 (j : Int) ∧ TrieL w3 wr tb T j) (fun i _ => k - (intOf i).toNat)
    case atStart => exact ⟨0, .nil, Nat.zero_le _, rfl, HT0.out⟩
    case round =>
      obtain ⟨j, T, hj, rfl, hT'⟩ := hrel
      have HT := hid hT'
      have HO := hid hT'.only
      have BW := hid (hT'.only.below B3.out hw3 (fun b hb => by have : b = tb := (by simpa using hb); omega))
      clear hT'
      by_cases cj : j < k
      · have cj' : (j : Int) < (k : Int) := by omega
        obtain ⟨_, hcell⟩ := HBG.out
        rcases hcell with e0 | ⟨g, cur, rfl, hgB, hh, hc⟩
        · have := begN_len L ns k; rw [e0] at this; simp at this; omega
        have hjl : j < (begN L ns k).length := by rw [begN_len]; exact cj
        have hcj := hc j hjl
        rw [begN_get] at hcj
        have hEin : (begF L ns j).e.in w := by
          have : j < L.length := by omega
          unfold begF
          rw [List.getD_eq_getElem?_getD, List.getElem?_eq_getElem this]
          exact HL.out.2.2.1 _ (List.getElem_mem this)
        have hgl : g < w3.heap.size := by
          rcases Nat.lt_or_ge g w3.heap.size with q | q
          · exact q
          · rw [Array.getElem?_eq_none q] at hh; cases hh
        have hgt : g ≠ tb := by omega
        have hhr : wr.heap[g]? = some (.cells cur 36 (0, 0)) := by rw [HO.out.block g hgl (by simpa using hgt)]; exact hh
        have HEin := hid hEin
        generalize begF L ns j = E at *
        have a0 : ∀ s' : Has g wr.heap[g]?, s'.val.cell? ⟨g, j * 3, none⟩ = some (.slice E.e.x E.e.A.length E.e.c) := fun s' => by rw [s'.cell]; simp [World.cell?, hhr, hcj.1, Bv.v]
        have a1 : ∀ s' : Has g wr.heap[g]?, s'.val.cell? ⟨g, j * 3 + 1, none⟩ = some (.int .i64 E.n) := fun s' => by rw [s'.cell]; simp [World.cell?, hhr, hcj.2.1]
        have a2 : ∀ s' : Has g wr.heap[g]?, s'.val.cell? ⟨g, j * 3 + 2, none⟩ = some (.int .i64 E.val) := fun s' => by rw [s'.cell]; simp [World.cell?, hhr, hcj.2.2]
        have hNe : Nonempty (Has g wr.heap[g]?) := ⟨⟨wr, rfl⟩⟩
        have HG := hid hhr
        clear hhr hcj hc hh hEin
        have CP := hid fun (u : World) (hu : Drawn wr u) => put_law (HT.out.grow (hu.below _)) (x := E.e.x) (c := E.e.c) (l := E.e.A.length) E.e.A E.n E.val ((HEin.out.1.below BW.out).below (hu.below _)) rfl (by omega)
        go_upto_region 11 with fail
        refine wp_region_forkA [0, 1, 2, 3, 4, 5, 6, 7, 8, 9, 10, 11, 12, 13, 14, 15] (.one 16 .nil) (fun u => ∃ s' : Has g wr.heap[g]?, u = s'.val) (by kernel_rfl) (by kernel_rfl) (by kernel_rfl) ⟨⟨wr.drew, rfl⟩, rfl⟩ ?_
        change wpQuiet _ _ _ _ [_, _, _, _, _, _, _, _, _, _, _, _, _, _, _, _] _
        repeat (go_big_quiet_step (fail))
        refine wpQuiet_nil ?_
        clear a0 a1 a2 hNe
        change stepL _ _ _ _ _ _ _ _ _
        refine stepL_at (by rfl) fun K Q' hK => ?_
        go_simp
        refine (CP.out _ ((Drawn.refl wr).more 1)).mono ?_
        intro e w5 hp
        have hp2 : ∃ ve T', e = .returned ve ∧ TrieL w3 w5 tb T' (j + 1) := by
          rcases hp with ⟨N, _, _, _, rfl, T', hl, _⟩ | ⟨_, rfl, hl, _⟩
          · exact ⟨_, T', rfl, hl⟩
          · exact ⟨_, T, rfl, hl⟩
        obtain ⟨ve, T', rfl, hl5⟩ := hp2
        have hg5 : w5.heap[g]? = wr.heap[g]? := by
          rw [hl5.only.block g hgl (by simpa using hgt), HO.out.block g hgl (by simpa using hgt)]
        refine hK _ _ (fun _ => ⟨⟨w5, hg5⟩, rfl⟩) ?_
        clear hK
        refine treeL_nil ?_
        have HT5 := hid hl5
        clear hl5 hg5 hp CP
        go_wp2
        go_roundw
        case rel => exact ⟨j + 1, T', by omega, by go_num, HT5.out⟩
        case measure => simp [intOf]; omega
      · have cj' : ¬ (j : Int) < (k : Int) := by omega
        have HS := hid HT.out.st
        have HTL : Hid (T.ents.length ≤ 100) := hid (by have := HT.out.len; omega)
        have HBL : Hid (∀ b ∈ tb :: T.blks, w.heap.size ≤ b) := hid (fun b hb => by
          rcases List.mem_cons.1 hb with rfl | hb
          · exact htb
          · exact Nat.le_trans hw3 (HT.out.new b hb))
        obtain ⟨q, hq⟩ : ∃ q, padN (Q.take 16) = q := ⟨_, rfl⟩
        obtain ⟨m, hm⟩ : ∃ m, 8 * (min Q.length 16) = m := ⟨_, rfl⟩
        have HAQ : Hid (∀ N, N ≤ m → (Al A Q N ↔ Al A q N)) := hid (fun N hN => by rw [← hq]; exact take_al (by omega))
        rcases hg1 : T.get q m none with _ | ⟨k1, v1⟩
        · clear HT
          have CG1 := hid (tget_q tb T q m (x := xk) (c := ck) (l := Q.length) Q wr HS.out (hQ.out.take_of BW.out) rfl hQl HQc.out HQx.out rfl hq hm _ hg1)
          go_upto_region 13 with (go_at_call 10; refine CG1.out.mono ?_; rintro e w5 ⟨rfl, d5⟩; rw [getV])
          have S5 := hid (HS.out.below d5)
          have B5 := hid (BW.out.trans (d5.mono (Nat.le_trans hw3 HO.out.size)))
          have hbl5 : ∀ b ∈ tb :: T.blks, w.heap.size ≤ b := HBL.out
          clear d5 CG1
          by_cases cr : A.length ≤ 16 ∧ 0 ≤ n ∧ n ≤ 8 * (A.length : Int)
          · obtain ⟨N, rfl⟩ : ∃ N : Nat, n = (N : Int) := ⟨n.toNat, by omega⟩
            have hN : N ≤ 8 * A.length := by omega
            have CP := hid (tput_good tb T (x := xd) (c := cd) (l := A.length) A N 1000 w5 S5.out (hA.out.below B5.out) rfl cr.1 hN (by have := HTL.out; omega))
            go_upto_region 14 with (go_at_call 9; refine CP.out.mono ?_; rintro e w6 ⟨rfl, T2, S6, U6, O6, N6⟩)
            have B6 := hid (O6.below B5.out B5.out.size hbl5)
            have hu := get_upd (q := q) (m := m) S5.out.wf S6.wf U6
            rw [hg1] at hu
            have HU := hid hu
            have HS6 := hid S6
            clear CP S6 U6 O6 N6 hu
            have hal : N ≤ m → (Al A Q N ↔ Al A q N) := fun z => HAQ.out N z
            by_cases c1 : N ≤ 8 * Q.length
            · have c1' : (N : Int) ≤ 8 * (Q.length : Int) := by omega
              have cm : N ≤ m := by omega
              by_cases c2 : Al A Q N
              · have c2q := (hal cm).1 c2
                have CA := hid (fun u (hu : Below w.heap.size w u) => alike_at true A Q N u (hA.out.below hu) (hQ.out.below hu) rfl rfl hN c1 ⟨fun _ => c2, fun _ => rfl⟩)
                have hg2 : T2.get q m none = some (N, 1000) := HU.out.1 ⟨cm, c2q, fun k v z => by cases z⟩
                have CG2 := hid (tget_q tb T2 q m (x := xk) (c := ck) (l := Q.length) Q w6 HS6.out (hQ.out.take_of B6.out) rfl hQl HQc.out HQx.out rfl hq hm _ hg2)
                go_upto_region 16 with (go_at_call 10; refine CG2.out.mono ?_; rintro e w7 ⟨rfl, d7⟩; rw [getV])
                have B7 := hid (B6.out.trans (d7.mono B6.out.size))
                clear d7 CG2
                go_wp2_with (first | (go_at_call 11; refine (CA.out _ B7.out).mono ?_; rintro e w8 ⟨rfl, rfl⟩))
                go_ret
                exact ⟨rfl, B7.out⟩
              · have CA := hid (fun u (hu : Below w.heap.size w u) => alike_at false A Q N u (hA.out.below hu) (hQ.out.below hu) rfl rfl hN c1 ⟨fun z => (by cases z), fun z => absurd z c2⟩)
                have hg2 : T2.get q m none = none := HU.out.2 (Or.inl (fun z => c2 ((hal cm).2 z.2)))
                have CG2 := hid (tget_q tb T2 q m (x := xk) (c := ck) (l := Q.length) Q w6 HS6.out (hQ.out.take_of B6.out) rfl hQl HQc.out HQx.out rfl hq hm _ hg2)
                go_upto_region 16 with (go_at_call 10; refine CG2.out.mono ?_; rintro e w7 ⟨rfl, d7⟩; rw [getV])
                have B7 := hid (B6.out.trans (d7.mono B6.out.size))
                clear d7 CG2
                go_wp2_with (first | (go_at_call 11; refine (CA.out _ B7.out).mono ?_; rintro e w8 ⟨rfl, rfl⟩))
                go_ret
                exact ⟨rfl, B7.out⟩
            · have c1' : ¬ (N : Int) ≤ 8 * (Q.length : Int) := by omega
              have hg2 : T2.get q m none = none := HU.out.2 (Or.inl (fun z => c1 (by omega)))
              have CG2 := hid (tget_q tb T2 q m (x := xk) (c := ck) (l := Q.length) Q w6 HS6.out (hQ.out.take_of B6.out) rfl hQl HQc.out HQx.out rfl hq hm _ hg2)
              go_upto_region 16 with (go_at_call 10; refine CG2.out.mono ?_; rintro e w7 ⟨rfl, d7⟩; rw [getV])
              have B7 := hid (B6.out.trans (d7.mono B6.out.size))
              clear d7 CG2
              go_wp2_with (first | fail)
              go_ret
              exact ⟨rfl, B7.out⟩
          · have CP := hid (tput_bad tb (x := xd) (c := cd) (l := A.length) n 1000 w5 hA.out.2.1 (by omega))
            rw [errV_some (by decide)] at CP
            go_wp2_with (go_at_call 9; refine CP.out.mono ?_; rintro e w6 ⟨rfl, rfl⟩)
            go_ret
            exact ⟨rfl, B5.out⟩
        · clear HT
          have CG1 := hid (tget_q tb T q m (x := xk) (c := ck) (l := Q.length) Q wr HS.out (hQ.out.take_of BW.out) rfl hQl HQc.out HQx.out rfl hq hm _ hg1)
          go_upto_region 13 with (go_at_call 10; refine CG1.out.mono ?_; rintro e w5 ⟨rfl, d5⟩; rw [getV])
          have S5 := hid (HS.out.below d5)
          have B5 := hid (BW.out.trans (d5.mono (Nat.le_trans hw3 HO.out.size)))
          have hbl5 : ∀ b ∈ tb :: T.blks, w.heap.size ≤ b := HBL.out
          clear d5 CG1
          by_cases cr : A.length ≤ 16 ∧ 0 ≤ n ∧ n ≤ 8 * (A.length : Int)
          · obtain ⟨N, rfl⟩ : ∃ N : Nat, n = (N : Int) := ⟨n.toNat, by omega⟩
            have hN : N ≤ 8 * A.length := by omega
            have CP := hid (tput_good tb T (x := xd) (c := cd) (l := A.length) A N 1000 w5 S5.out (hA.out.below B5.out) rfl cr.1 hN (by have := HTL.out; omega))
            go_upto_region 14 with (go_at_call 9; refine CP.out.mono ?_; rintro e w6 ⟨rfl, T2, S6, U6, O6, N6⟩)
            have B6 := hid (O6.below B5.out B5.out.size hbl5)
            have hu := get_upd (q := q) (m := m) S5.out.wf S6.wf U6
            rw [hg1] at hu
            have HU := hid hu
            have HS6 := hid S6
            clear CP S6 U6 O6 N6 hu
            have hal : N ≤ m → (Al A Q N ↔ Al A q N) := fun z => HAQ.out N z
            by_cases c1 : N ≤ 8 * Q.length
            · have c1' : (N : Int) ≤ 8 * (Q.length : Int) := by omega
              have cm : N ≤ m := by omega
              by_cases c2 : Al A Q N
              · have c2q := (hal cm).1 c2
                have CA := hid (fun u (hu : Below w.heap.size w u) => alike_at true A Q N u (hA.out.below hu) (hQ.out.below hu) rfl rfl hN c1 ⟨fun _ => c2, fun _ => rfl⟩)
                by_cases c3 : k1 ≤ N
                · have c3' : (k1 : Int) ≤ (N : Int) := by omega
                  have hg2 : T2.get q m none = some (N, 1000) := HU.out.1 ⟨cm, c2q, fun k v z => by cases z; exact c3⟩
                  have CG2 := hid (tget_q tb T2 q m (x := xk) (c := ck) (l := Q.length) Q w6 HS6.out (hQ.out.take_of B6.out) rfl hQl HQc.out HQx.out rfl hq hm _ hg2)
                  go_upto_region 16 with (go_at_call 10; refine CG2.out.mono ?_; rintro e w7 ⟨rfl, d7⟩; rw [getV])
                  have B7 := hid (B6.out.trans (d7.mono B6.out.size))
                  clear d7 CG2
                  go_wp2_with (first | (go_at_call 11; refine (CA.out _ B7.out).mono ?_; rintro e w8 ⟨rfl, rfl⟩))
                  go_ret
                  exact ⟨rfl, B7.out⟩
                · have c3' : ¬ (k1 : Int) ≤ (N : Int) := by omega
                  have hg2 : T2.get q m none = some (k1, v1) := HU.out.2 (Or.inr ⟨k1, v1, rfl, by omega⟩)
                  have CG2 := hid (tget_q tb T2 q m (x := xk) (c := ck) (l := Q.length) Q w6 HS6.out (hQ.out.take_of B6.out) rfl hQl HQc.out HQx.out rfl hq hm _ hg2)
                  go_upto_region 16 with (go_at_call 10; refine CG2.out.mono ?_; rintro e w7 ⟨rfl, d7⟩; rw [getV])
                  have B7 := hid (B6.out.trans (d7.mono B6.out.size))
                  clear d7 CG2
                  go_wp2_with (first | (go_at_call 11; refine (CA.out _ B7.out).mono ?_; rintro e w8 ⟨rfl, rfl⟩))
                  go_ret
                  exact ⟨rfl, B7.out⟩
              · have CA := hid (fun u (hu : Below w.heap.size w u) => alike_at false A Q N u (hA.out.below hu) (hQ.out.below hu) rfl rfl hN c1 ⟨fun z => (by cases z), fun z => absurd z c2⟩)
                have hg2 : T2.get q m none = some (k1, v1) := HU.out.2 (Or.inl (fun z => c2 ((hal cm).2 z.2)))
                have CG2 := hid (tget_q tb T2 q m (x := xk) (c := ck) (l := Q.length) Q w6 HS6.out (hQ.out.take_of B6.out) rfl hQl HQc.out HQx.out rfl hq hm _ hg2)
                go_upto_region 16 with (go_at_call 10; refine CG2.out.mono ?_; rintro e w7 ⟨rfl, d7⟩; rw [getV])
                have B7 := hid (B6.out.trans (d7.mono B6.out.size))
                clear d7 CG2
                go_wp2_with (first | (go_at_call 11; refine (CA.out _ B7.out).mono ?_; rintro e w8 ⟨rfl, rfl⟩))
                go_ret
                exact ⟨rfl, B7.out⟩
            · have c1' : ¬ (N : Int) ≤ 8 * (Q.length : Int) := by omega
              have hg2 : T2.get q m none = some (k1, v1) := HU.out.2 (Or.inl (fun z => c1 (by omega)))
              have CG2 := hid (tget_q tb T2 q m (x := xk) (c := ck) (l := Q.length) Q w6 HS6.out (hQ.out.take_of B6.out) rfl hQl HQc.out HQx.out rfl hq hm _ hg2)
              go_upto_region 16 with (go_at_call 10; refine CG2.out.mono ?_; rintro e w7 ⟨rfl, d7⟩; rw [getV])
              have B7 := hid (B6.out.trans (d7.mono B6.out.size))
              clear d7 CG2
              go_wp2_with (first | fail)
              go_ret
              exact ⟨rfl, B7.out⟩
          · have CP := hid (tput_bad tb (x := xd) (c := cd) (l := A.length) n 1000 w5 hA.out.2.1 (by omega))
            rw [errV_some (by decide)] at CP
            go_wp2_with (go_at_call 9; refine CP.out.mono ?_; rintro e w6 ⟨rfl, rfl⟩)
            go_ret
            exact ⟨rfl, B5.out⟩

end Go.Proofs.Ytoakpkpdipgfoaa
