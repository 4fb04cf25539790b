/-
  The law TailUp: its walk.
-/
import Derived.Test.YtclkhegdbikcoaaTlEnd
import Derived.Test.YtclkhegdbikcoaaTlRow
namespace Go.Proofs.Ytclkhegdbikcoaa.Tl
open Go.RowKit Go.Deep Go.Maps

/-- The place of the last one that was put for a name. -/
def AtR (a : Int) (v : Option Int) : Prop := (a = -1 ∧ v = none) ∨ (0 ≤ a ∧ v = some a)

theorem AtR.next {E : List (List ByteArray × Int)} {m n : List ByteArray} {a : Int} (h : AtR a (valT E n)) (j : Nat) (hs : ¬ (Nm.checkN (m.map Nm.bs) = 0 ∧ (Nm.cN m n == 0) = true)) : AtR a (valT (putT E m (j : Int)) n) := by
  unfold putT
  split
  · rename_i hk
    rw [valT_snoc, if_neg (fun q => hs ⟨hk, by simpa using q⟩)]
    exact h
  · exact h

theorem AtR.here {E : List (List ByteArray × Int)} {m n : List ByteArray} (j : Nat) (hk : Nm.checkN (m.map Nm.bs) = 0) (hs : (Nm.cN m n == 0) = true) : AtR (j : Int) (valT (putT E m (j : Int)) n) := by
  unfold putT
  rw [if_pos hk, valT_snoc, if_pos (by simpa using hs)]
  exact Or.inr ⟨by omega, rfl⟩

/-- What the law's loop keeps. -/
def UpRel (w : World) (tb mb : Nat) (L : List Sv) (n : List ByteArray) (va vi : Value) (wr : World) : Prop :=
  ∃ (j : Nat) (a : Int) (E : List (List ByteArray × Int)), j ≤ L.length ∧ vi = .int .i64 (j : Int) ∧ va = .int .i64 a ∧ TailL w wr tb mb E ∧ E.length ≤ j ∧ AtR a (valT E n) ∧ a < 100

set_option maxHeartbeats 4000000 in
set_option maxRecDepth 100000 in
theorem tup_walk {xa xn : Option Addr} {ca la cn ln : Nat} (L : List Sv) (n : List ByteArray) (w : World) (hL : Strss w xa ca L) (hn : Strs w xn cn n) (jl : L.length = la) (jn : n.length = ln) :
    Calls Try.prog 3 #[.slice xa la ca, .slice xn ln cn] w fun e w' => e = .returned (.bool true) ∧ Below w.heap.size w w' := by
  subst jl jn
  have HL := hid hL
  have HN := hid hn
  have hll : L.length ≤ 6000000000000 := hL.2.1
  have hnl : n.length ≤ 8796093022208 := hn.2.1
  have hnc := hn.1
  clear hL hn
  go_enter Try.func3, Try.ntmps3
  go_wp2_with fail
  refine (ended_any w).mono ?_
  rintro e w1 ⟨rfl, b1⟩
  have B1 := hid b1
  have s1 := b1.size
  clear b1
  by_cases cl : 60 < L.length
  · have cl' : (60 : Int) < (L.length : Int) := by omega
    go_wp2_with fail
    go_ret
    exact ⟨rfl, B1.out⟩
  have cl' : ¬ (60 : Int) < (L.length : Int) := by omega
  have clp : (L.length : Int) ≤ 60 := by omega
  go_wp2_with fail
  refine (tnew_any w1).mono ?_
  rintro e w2 ⟨tb, rfl, htb, hT, b2⟩
  obtain ⟨mb, hmb⟩ : ∃ mb, w1.heap.size = mb := ⟨_, rfl⟩
  rw [hmb] at hT htb
  have HT : Hid (TailL w w2 tb mb []) := hid ⟨hT, by omega, B1.out.trans (b2.mono s1)⟩
  clear hT b2 hmb
  go_wp2_with fail
  go_loopw [7, 8] (fun va vi wr => UpRel w tb mb L n va vi wr) (fun _ vi _ => L.length - (intOf vi).toNat)
  case atStart => exact ⟨0, -1, [], Nat.zero_le _, rfl, rfl, HT.out, Nat.zero_le _, Or.inl ⟨rfl, rfl⟩, by omega⟩
  case round =>
    clear HT
    obtain ⟨j, a, E, hj, rfl, rfl, hT, hE, hat, ha⟩ := hrel
    have HT := hid hT
    have HAT := hid hat
    clear hT hat
    by_cases cj : j < L.length
    · have cj' : (j : Int) < (L.length : Int) := by omega
      obtain ⟨_, _, hin, hcell⟩ := HL.out
      obtain ⟨b0, o0, rfl, hb0, q0⟩ : ∃ b off, xa = some ⟨b, off, none⟩ ∧ b < w.heap.size ∧ ∀ i (h : i < L.length), w.cell? ⟨b, off + i, none⟩ = some (L[i]).v := by
        rcases hcell with q | q
        · rw [q] at cj; simp at cj
        · exact q
      have q1 := q0 j cj
      have hIN := hin _ (List.getElem_mem cj)
      clear hin hcell q0
      generalize L[j] = S at *
      obtain ⟨sx, sc, m⟩ := S
      have HIN0 : Hid (Strs w sx sc m) := hid hIN
      have HIN : Hid (Strs wr sx sc m) := hid (Strs.below hIN HT.out.old)
      have HQ : Hid (w.cell? ⟨b0, o0 + j, none⟩ = some (.slice sx m.length sc)) := hid q1
      have q2 : wr.cell? ⟨b0, o0 + j, none⟩ = some (.slice sx m.length sc) := by rw [HT.out.old.cell (p := ⟨b0, o0 + j, none⟩) hb0]; exact HQ.out
      clear q1 hIN
      go_wp2_with fail
      refine (tput_any tb mb E m (j : Int) wr HT.out HIN.out rfl (by omega) (by omega) (by omega)).mono ?_
      rintro e w3 ⟨rfl, hT3, g3⟩
      have HT3 := hid hT3
      have HE3 := putT_len E m (j : Int)
      have HM3 : Hid (Strs w3 sx sc m) := hid (HIN0.out.below hT3.old)
      have q3 : w3.cell? ⟨b0, o0 + j, none⟩ = some (.slice sx m.length sc) := by rw [hT3.old.cell (p := ⟨b0, o0 + j, none⟩) hb0]; exact HQ.out
      have HN3 : Hid (Strs w3 xn cn n) := hid (HN.out.below hT3.old)
      have NX := hid (fun q => AtR.next (m := m) (n := n) HAT.out j q)
      have HR := hid (fun h1 h2 => AtR.here (E := E) (m := m) (n := n) j h1 h2)
      have SM := hid (fun r (hr : (Nm.cN m n == 0) = r) => same_at r m n w3 HM3.out HN3.out rfl rfl hr)
      clear hT3 g3 q2 HT HAT
      generalize putT E m (j : Int) = E' at *
      by_cases hk : Nm.checkN (m.map Nm.bs) = 0
      · have HK := hid hk
        have e0 : errV (Nm.checkN (m.map Nm.bs)) = .nilIface := by rw [hk]; rfl
        rw [e0]
        clear e0 hk
        cases hs : (Nm.cN m n == 0) with
        | true =>
          have AT := hid (HR.out HK.out hs)
          have SS := hid (SM.out true hs)
          clear hs
          go_wp2_with fail
          refine SS.out.mono ?_
          rintro e w4 ⟨rfl, d4⟩
          have HT4 := hid (HT3.out.below (d4.below _))
          clear d4
          go_wp2_with fail
          exact ⟨⟨j + 1, (j : Int), E', by omega, by go_num, rfl, HT4.out, by omega, AT.out, by omega⟩, by simp [intOf]; omega⟩
        | false =>
          have AT := hid (NX.out (fun q => by rw [hs] at q; exact absurd q.2 (by decide)))
          have SS := hid (SM.out false hs)
          clear hs
          go_wp2_with fail
          refine SS.out.mono ?_
          rintro e w4 ⟨rfl, d4⟩
          have HT4 := hid (HT3.out.below (d4.below _))
          clear d4
          go_wp2_with fail
          exact ⟨⟨j + 1, a, E', by omega, by go_num, rfl, HT4.out, by omega, AT.out, ha⟩, by simp [intOf]; omega⟩
      · have AT := hid (NX.out (fun q => hk q.1))
        rw [errV_some hk]
        clear hk
        go_wp2_with fail
        exact ⟨⟨j + 1, a, E', by omega, by go_num, rfl, HT3.out, by omega, AT.out, ha⟩, by simp [intOf]; omega⟩
    · have cj' : ¬ (j : Int) < (L.length : Int) := by omega
      have HNr := hid (HN.out.below HT.out.old)
      go_wp2_with fail
      refine (tget_any tb mb E n wr HT.out.st HNr.out rfl).mono ?_
      rintro e w3 ⟨rfl, b3⟩
      have HT3 := hid (HT.out.below b3)
      have HN3 := hid (HNr.out.below b3)
      have GF : Hid (getT E (n.map fS) = getT E n) := hid (getT_same (cN_fold n))
      have hs3 := b3.size
      clear b3 HNr HT
      obtain ⟨G, hG⟩ : ∃ G, getT E n = G := ⟨_, rfl⟩
      rw [hG] at GF ⊢
      have HG := hid hG
      clear hG
      unfold getV
      go_wp2_with fail
      refine (fold_at n w3 HN3.out rfl).mono ?_
      rintro e w4 ⟨g, rfl, hs4, b4⟩
      have HT4 := hid (HT3.out.below b4)
      have HN4 := hid (HN3.out.below b4)
      have HF4 := hid hs4
      have hfl : Hid ((n.map fS).length = n.length) := hid (by simp)
      clear b4 HT3 HN3 hs4
      go_wp2_with fail
      refine (tget_any tb mb E (n.map fS) w4 HT4.out.st HF4.out hfl.out).mono ?_
      rintro e w5 ⟨rfl, b5⟩
      have HT5 := hid (HT4.out.below b5)
      have HN5 := hid (HN4.out.below b5)
      rw [GF.out]
      clear b5 HT4 HN4 HF4 hfl GF
      unfold getV
      rcases HAT.out with ⟨rfl, hv⟩ | ⟨h0, hv⟩
      · by_cases cn0 : n.length = 0
        · have hn0 : n = [] := List.length_eq_zero_iff.1 cn0
          have HG0 : G = none := by rw [← HG.out, hn0, getT_none (by rw [← hn0]; exact hv)]
          subst HG0
          have cn0' : (n.length : Int) = 0 := by omega
          clear hv
          unfold gv gn gh
          go_wp2_with fail
          go_ret
          exact ⟨rfl, HT5.out.old⟩
        · have hz0 : ∀ j, j < 1 → valT E (n.drop j) = none := fun j hj => by
            obtain rfl : j = 0 := by omega
            rw [List.drop_zero]
            exact hv
          have HG1 : Hid (getT E (n.drop 1) = G) := hid (by rw [← HG.out, ← getT_from (i := 1) (by omega) hz0])
          have cn0' : ¬ (n.length : Int) = 0 := by omega
          have cn1 : (1 : Int) ≤ (n.length : Int) := by omega
          have cn2 : (1 : Int) ≤ (cn : Int) := by omega
          obtain ⟨b0, o0, rfl⟩ : ∃ b off, xn = some ⟨b, off, none⟩ := by
            rcases HN5.out.2.2.2 with q | ⟨b, off, q, _⟩
            · rw [q] at cn0; simp at cn0
            · exact ⟨b, off, q⟩
          have HL1 : Hid ((n.drop 1).length = n.length - 1) := hid (by rw [List.length_drop])
          have D1 : Hid (Strs w5 (some ⟨b0, o0 + 1, none⟩) (cn - 1) (n.drop 1)) := hid (by simpa only [Option.map_some, Go.WideShapes.add_plain] using HN5.out.drop 1 (by omega))
          have D0 : Hid (n.length ≤ 1 → Strs w5 (some ⟨b0, o0, none⟩) 0 (n.drop 1)) := hid (fun q => HN5.out.none_left 1 q)
          have CG := hid (fun x' c' (hs : Strs w5 x' c' (n.drop 1)) => tget_any tb mb E (n.drop 1) w5 HT5.out.st hs HL1.out)
          rw [HG1.out] at CG
          unfold getV at CG
          clear hv hz0
          generalize gv G = v0 at *
          generalize gn G = k0 at *
          generalize gh G = h0 at *
          by_cases cc : cn = 1
          · go_wp2_with fail
            refine (CG.out _ _ (D0.out (by omega))).mono ?_
            rintro e w6 ⟨rfl, b6⟩
            have HB6 := hid (HT5.out.below b6).old
            clear b6
            cases h0
            · go_wp2_with fail
              go_ret
              exact ⟨rfl, HB6.out⟩
            · go_wp2_with fail
              go_ret
              exact ⟨rfl, HB6.out⟩
          · go_wp2_with fail
            refine (CG.out _ _ D1.out).mono ?_
            rintro e w6 ⟨rfl, b6⟩
            have HB6 := hid (HT5.out.below b6).old
            clear b6
            cases h0
            · go_wp2_with fail
              go_ret
              exact ⟨rfl, HB6.out⟩
            · go_wp2_with fail
              go_ret
              exact ⟨rfl, HB6.out⟩
      · have hG : G = some (n.length, a) := by rw [← HG.out, getT_here hv]
        subst hG
        clear hv
        unfold gv gn gh
        go_wp2_with fail
        go_ret
        exact ⟨rfl, HT5.out.old⟩

end Go.Proofs.Ytclkhegdbikcoaa.Tl
