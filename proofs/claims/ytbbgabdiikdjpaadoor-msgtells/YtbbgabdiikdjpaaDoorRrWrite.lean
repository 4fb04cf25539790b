/-
  The walk of Write of package rr: the message with a record behind it, in new memory; nothing that was there is written.
-/
import Derived.Test.YtbbgabdiikdjpaaDoorRr
import Derived.Test.YtbbgabdiikdjpaaDoorMsgPacks
namespace Go.Proofs.YtbbgabdiikdjpaaDoor
open Go.RowKit Go.Deep

/-- What stands behind a record's name. -/
def fieldsN (ty cl ttl : Int) (D : List Int) : List Int := twoN ty ++ twoN cl ++ twoN (ttl / 65536) ++ twoN ttl ++ twoN (D.length : Int) ++ D

/-- What is wrong with a record. -/
def recE (n : List ByteArray) (ty cl ttl : Int) (D : List Int) : Int :=
  if ¬ Nm.checkN (n.map Nm.bs) = 0 then Nm.checkN (n.map Nm.bs) else if ¬ ((0 ≤ ty ∧ ty ≤ 65535) ∧ (0 ≤ cl ∧ cl ≤ 65535) ∧ (0 ≤ ttl ∧ ttl ≤ 4294967295)) then 6 else if 65535 < D.length then 7 else 0

def WroteOwn (out told : List Int) (w : World) (e : Ending) (w' : World) : Prop :=
  ∃ v u, e = .returned (.tuple #[v, u, .nilIface]) ∧ Rowb w' w.heap.size v out ∧ Rowi w' w.heap.size u told ∧ Below w.heap.size w w' ∧
    out.length ≤ 200000000000000 ∧ (∀ b ∈ out, 0 ≤ b ∧ b ≤ 255) ∧ told.length ≤ 17592186044416 ∧ (∀ z ∈ told, -9223372036854775808 ≤ z ∧ z ≤ 9223372036854775807)

theorem two_bytes (n : Int) : ∀ b ∈ twoN n, 0 ≤ b ∧ b ≤ 255 := by
  intro b hb
  simp [twoN] at hb
  omega

theorem fields_bytes (ty cl ttl : Int) {D : List Int} (hD : ∀ b ∈ D, 0 ≤ b ∧ b ≤ 255) : ∀ b ∈ fieldsN ty cl ttl D, 0 ≤ b ∧ b ≤ 255 := by
  intro b hb
  unfold fieldsN at hb
  simp only [List.mem_append] at hb
  rcases hb with ((((hb | hb) | hb) | hb) | hb) | hb
  · exact two_bytes _ b hb
  · exact two_bytes _ b hb
  · exact two_bytes _ b hb
  · exact two_bytes _ b hb
  · exact two_bytes _ b hb
  · exact hD b hb

theorem fields_len (ty cl ttl : Int) (D : List Int) : (fieldsN ty cl ttl D).length = 10 + D.length := by
  simp [fieldsN, twoN]
  omega

theorem two_len (n : Int) : (twoN n).length = 2 := rfl

set_option maxHeartbeats 2000000 in
set_option maxRecDepth 100000 in
theorem rwrite_good {x y z u : Option Addr} {c d cz cu l l' lz lu : Nat} (out told ms starts D : List Int) (n : List ByteArray) (ty cl ttl : Int) (w : World) (h : Bys w x c ms) (hz : Ints w z cz starts) (hn : Strs w y d n) (hD : Bys w u cu D) (hu : u = none → cu = 0)
    (hl : ms.length = l) (hl' : n.length = l') (hlz : starts.length = lz) (hlu : D.length = lu) (hm : ms.length ≤ 140737488354900) (hs : starts.length ≤ 17592186044100) (hk : recE n ty cl ttl D = 0)
    (ho : packOut ms n starts ++ fieldsN ty cl ttl D = out) (ht : packTold ms n starts = told) :
    Calls Tryd.prog 69 #[.slice x l c, .slice z lz cz, .agg #[.slice y l' d, .int .i64 ty, .int .i64 cl, .int .i64 ttl, .slice u lu cu]] w (WroteOwn out told w) := by
  obtain ⟨i0, hi, hz0, hz1, hz2⟩ := info_of_byte
  subst hl hl' hlz hlu
  unfold recE at hk
  by_cases k0 : Nm.checkN (n.map Nm.bs) = 0
  · rw [if_neg (by simp [k0])] at hk
    by_cases k1 : (0 ≤ ty ∧ ty ≤ 65535) ∧ (0 ≤ cl ∧ cl ≤ 65535) ∧ (0 ≤ ttl ∧ ttl ≤ 4294967295)
    · rw [if_neg (by simp only [Decidable.not_not]; exact k1)] at hk
      by_cases k2 : 65535 < D.length
      · rw [if_pos k2] at hk; simp at hk
      · obtain ⟨⟨t0, t1⟩, ⟨t2, t3⟩, t4, t5⟩ := k1
        have f1 : decide (0 ≤ ty ∧ ty ≤ 65535) = true := decide_eq_true ⟨t0, t1⟩
        have f2 : decide (0 ≤ cl ∧ cl ≤ 65535) = true := decide_eq_true ⟨t2, t3⟩
        have f3 : decide (0 ≤ ttl ∧ ttl ≤ 4294967295) = true := decide_eq_true ⟨t4, t5⟩
        have F1 := hid f1
        have F2 := hid f2
        have F3 := hid f3
        have K := hid k0
        have O := hid ho
        have k3 : ¬ 65535 < (D.length : Int) := by omega
        clear f1 f2 f3 k0 hk ho
        go_enter Tryd.func69, Tryd.ntmps69
        go_wp2_with fail
        have B0 : Below w.heap.size w _ := (Below.refl _ w).alloc (Nat.le_refl _) (.cells #[.slice y n.length d, .int .i64 ty, .int .i64 cl, .int .i64 ttl, .slice u D.length cu] 67)
        have K0 := Bl.new 67 w #[.slice y n.length d, .int .i64 ty, .int .i64 cl, .int .i64 ttl, .slice u D.length cu]
        have hs0 : (w.alloc (.cells #[.slice y n.length d, .int .i64 ty, .int .i64 cl, .int .i64 ttl, .slice u D.length cu] 67)).heap.size = w.heap.size + 1 := by simp
        refine (pack_own (packOut ms n starts) told ms starts n _ (h.below B0) (hz.below B0) (hn.below B0) rfl rfl rfl hm hs K.out rfl ht).mono ?_
        rintro e w1 ⟨v1, u1, rfl, hr1, hi1, b1, hl1, hb1, hl2, hb2⟩
        rw [hs0] at hr1 hi1 b1
        have K1 := K0.under (Nat.lt_succ_self _) b1
        have B1 : Below w.heap.size w w1 := B0.trans (b1.mono (Nat.le_succ _))
        have s1 : w.heap.size + 1 ≤ w1.heap.size := by have := b1.size; omega
        clear B0 K0 b1 hs0
        have OB := hid (show ∀ b ∈ out, 0 ≤ b ∧ b ≤ 255 by
          rw [← O.out]
          intro b q
          rcases List.mem_append.1 q with q | q
          · exact hb1 b q
          · exact fields_bytes ty cl ttl hD.2.2.1 b q)
        have OL := hid (show out.length ≤ 200000000000000 by rw [← O.out, List.length_append, fields_len]; omega)
        have TB := hid hb2
        clear hb1 hb2
        generalize packOut ms n starts = P at *
        have q1 : w1.cell? ⟨w.heap.size, 1, none⟩ = some (.int .i64 ty) := K1.cell (i := 1) rfl
        have q2 : w1.cell? ⟨w.heap.size, 2, none⟩ = some (.int .i64 cl) := K1.cell (i := 2) rfl
        have q3 : w1.cell? ⟨w.heap.size, 3, none⟩ = some (.int .i64 ttl) := K1.cell (i := 3) rfl
        have q4 : w1.cell? ⟨w.heap.size, 4, none⟩ = some (.slice u D.length cu) := K1.cell (i := 4) rfl
        go_wp2_with fail
        refine (rfits_at true ty 65535 _ F1.out).mono ?_
        rintro e w' ⟨rfl, rfl⟩
        go_wp2_with fail
        refine (rfits_at true cl 65535 _ F2.out).mono ?_
        rintro e w' ⟨rfl, rfl⟩
        go_wp2_with fail
        refine (rfits_at true ttl 4294967295 _ F3.out).mono ?_
        rintro e w' ⟨rfl, rfl⟩
        go_wp2_with fail
        refine (appendTwo_any (w.heap.size + 1) v1 P ty _ hr1 (by omega) s1).mono ?_
        rintro e w2 ⟨v2, rfl, hr2, b2, ki2⟩
        have K2 := K1.under (Nat.lt_succ_self _) b2
        have hi2 : Rowi w2 (w.heap.size + 1) u1 told := ki2 _ _ _ _ hi1
        have B2 : Below w.heap.size w w2 := B1.trans (b2.mono (Nat.le_succ _))
        have s2 : w.heap.size + 1 ≤ w2.heap.size := by have := b2.size; omega
        clear q1 q2 q3 q4 K1 hr1 hi1 B1 b2 ki2
        have q1 : w2.cell? ⟨w.heap.size, 1, none⟩ = some (.int .i64 ty) := K2.cell (i := 1) rfl
        have q2 : w2.cell? ⟨w.heap.size, 2, none⟩ = some (.int .i64 cl) := K2.cell (i := 2) rfl
        have q3 : w2.cell? ⟨w.heap.size, 3, none⟩ = some (.int .i64 ttl) := K2.cell (i := 3) rfl
        have q4 : w2.cell? ⟨w.heap.size, 4, none⟩ = some (.slice u D.length cu) := K2.cell (i := 4) rfl
        go_wp2_with fail
        refine (appendTwo_any (w.heap.size + 1) v2 (P ++ twoN ty) cl _ hr2 (by simp only [List.length_append, two_len]; omega) s2).mono ?_
        rintro e w3 ⟨v3, rfl, hr3, b3, ki3⟩
        have K3 := K2.under (Nat.lt_succ_self _) b3
        have hi3 : Rowi w3 (w.heap.size + 1) u1 told := ki3 _ _ _ _ hi2
        have B3 : Below w.heap.size w w3 := B2.trans (b3.mono (Nat.le_succ _))
        have s3 : w.heap.size + 1 ≤ w3.heap.size := by have := b3.size; omega
        clear q1 q2 q3 q4 K2 hr2 hi2 B2 b3 ki3
        have q1 : w3.cell? ⟨w.heap.size, 1, none⟩ = some (.int .i64 ty) := K3.cell (i := 1) rfl
        have q2 : w3.cell? ⟨w.heap.size, 2, none⟩ = some (.int .i64 cl) := K3.cell (i := 2) rfl
        have q3 : w3.cell? ⟨w.heap.size, 3, none⟩ = some (.int .i64 ttl) := K3.cell (i := 3) rfl
        have q4 : w3.cell? ⟨w.heap.size, 4, none⟩ = some (.slice u D.length cu) := K3.cell (i := 4) rfl
        go_wp2_with fail
        refine (appendTwo_any (w.heap.size + 1) v3 (P ++ twoN ty ++ twoN cl) (ttl / 65536) _ hr3 (by simp only [List.length_append, two_len]; omega) s3).mono ?_
        rintro e w4 ⟨v4, rfl, hr4, b4, ki4⟩
        have K4 := K3.under (Nat.lt_succ_self _) b4
        have hi4 : Rowi w4 (w.heap.size + 1) u1 told := ki4 _ _ _ _ hi3
        have B4 : Below w.heap.size w w4 := B3.trans (b4.mono (Nat.le_succ _))
        have s4 : w.heap.size + 1 ≤ w4.heap.size := by have := b4.size; omega
        clear q1 q2 q3 q4 K3 hr3 hi3 B3 b4 ki4
        have q1 : w4.cell? ⟨w.heap.size, 1, none⟩ = some (.int .i64 ty) := K4.cell (i := 1) rfl
        have q2 : w4.cell? ⟨w.heap.size, 2, none⟩ = some (.int .i64 cl) := K4.cell (i := 2) rfl
        have q3 : w4.cell? ⟨w.heap.size, 3, none⟩ = some (.int .i64 ttl) := K4.cell (i := 3) rfl
        have q4 : w4.cell? ⟨w.heap.size, 4, none⟩ = some (.slice u D.length cu) := K4.cell (i := 4) rfl
        go_wp2_with fail
        refine (appendTwo_any (w.heap.size + 1) v4 (P ++ twoN ty ++ twoN cl ++ twoN (ttl / 65536)) ttl _ hr4 (by simp only [List.length_append, two_len]; omega) s4).mono ?_
        rintro e w5 ⟨v5, rfl, hr5, b5, ki5⟩
        have K5 := K4.under (Nat.lt_succ_self _) b5
        have hi5 : Rowi w5 (w.heap.size + 1) u1 told := ki5 _ _ _ _ hi4
        have B5 : Below w.heap.size w w5 := B4.trans (b5.mono (Nat.le_succ _))
        have s5 : w.heap.size + 1 ≤ w5.heap.size := by have := b5.size; omega
        clear q1 q2 q3 q4 K4 hr4 hi4 B4 b5 ki5
        have q1 : w5.cell? ⟨w.heap.size, 1, none⟩ = some (.int .i64 ty) := K5.cell (i := 1) rfl
        have q2 : w5.cell? ⟨w.heap.size, 2, none⟩ = some (.int .i64 cl) := K5.cell (i := 2) rfl
        have q3 : w5.cell? ⟨w.heap.size, 3, none⟩ = some (.int .i64 ttl) := K5.cell (i := 3) rfl
        have q4 : w5.cell? ⟨w.heap.size, 4, none⟩ = some (.slice u D.length cu) := K5.cell (i := 4) rfl
        go_wp2_with fail
        refine (appendTwo_any (w.heap.size + 1) v5 (P ++ twoN ty ++ twoN cl ++ twoN (ttl / 65536) ++ twoN ttl) (D.length : Int) _ hr5 (by simp only [List.length_append, two_len]; omega) s5).mono ?_
        rintro e w6 ⟨v6, rfl, hr6, b6, ki6⟩
        have K6 := K5.under (Nat.lt_succ_self _) b6
        have hi6 : Rowi w6 (w.heap.size + 1) u1 told := ki6 _ _ _ _ hi5
        have B6 : Below w.heap.size w w6 := B5.trans (b6.mono (Nat.le_succ _))
        have s6 : w.heap.size + 1 ≤ w6.heap.size := by have := b6.size; omega
        clear q1 q2 q3 q4 K5 hr5 hi5 B5 b6 ki6
        have q1 : w6.cell? ⟨w.heap.size, 1, none⟩ = some (.int .i64 ty) := K6.cell (i := 1) rfl
        have q2 : w6.cell? ⟨w.heap.size, 2, none⟩ = some (.int .i64 cl) := K6.cell (i := 2) rfl
        have q3 : w6.cell? ⟨w.heap.size, 3, none⟩ = some (.int .i64 ttl) := K6.cell (i := 3) rfl
        have q4 : w6.cell? ⟨w.heap.size, 4, none⟩ = some (.slice u D.length cu) := K6.cell (i := 4) rfl
        have RL : Hid ((P ++ twoN ty ++ twoN cl ++ twoN (ttl / 65536) ++ twoN ttl ++ twoN (D.length : Int)).length ≤ 140737488400000) := hid (by simp only [List.length_append, two_len]; omega)
        have RM : Hid (10 ≤ (P ++ twoN ty ++ twoN cl ++ twoN (ttl / 65536) ++ twoN ttl ++ twoN (D.length : Int)).length) := hid (by simp only [List.length_append, two_len]; omega)
        have OE : Hid (P ++ twoN ty ++ twoN cl ++ twoN (ttl / 65536) ++ twoN ttl ++ twoN (D.length : Int) ++ D = out) := hid (by rw [← O.out]; simp [fieldsN, List.append_assoc])
        obtain ⟨X, hX⟩ : ∃ X, P ++ twoN ty ++ twoN cl ++ twoN (ttl / 65536) ++ twoN ttl ++ twoN (D.length : Int) = X := ⟨_, rfl⟩
        rw [hX] at RL RM OE hr6
        clear hX
        have hl6 := RL.out
        cases u with
        | none =>
          have hDn : D = [] := by
            rcases hD.2.2.2 with q | ⟨b, off, q, _⟩
            · exact q
            · cases q
          have hc0 := hu rfl
          subst hDn hc0
          have hm6 := RM.out
          rw [List.append_nil] at OE
          have hr7 : Rowb w6 (w.heap.size + 1) v6 out := by rw [← OE.out]; exact hr6
          rcases hr6.2 with ⟨_, q⟩ | ⟨g, cap, cur, rfl, _, _, hcap, _⟩
          · omega
          · have hcap2 : X.length ≤ cap := by omega
            clear hcap hr6
            go_wp2_with (at_builtin; refine wpList_append_none rfl _ _ 22 rfl _ rfl rfl (run_append_none Tryd.underlying22 hi _ _ _ _ _ _ hcap2) ?_)
            clear q1 q2 q3 q4
            go_wp2_with fail
            go_ret3
            exact ⟨_, u1, rfl, owns_base hr7 (Nat.le_succ _), owns_base hi6 (Nat.le_succ _), B6, OL.out, OB.out, hl2, TB.out⟩
        | some ad =>
          have hnews : ∀ j v, (D.map (Value.int .u8))[j]? = some v → w6.cell? (ad.add j) = some v := by
            have s := hD.below B6
            rcases s.2.2.2 with q | ⟨b, off, q, _, q2⟩
            · rw [q]; intro j v hv; simp at hv
            · cases q; exact bys_news q2
          have HN := hid hnews
          have hown : World.ownsRow _ _ _ _ _ _ _ := hr6
          clear hnews
          go_wp2_with (at_builtin; refine wpList_append_own_wide _ rfl _ _ 22 rfl (w.heap.size + 1) 5 i0 (.int .u8 0) 1 1 Tryd.underlying22 hi hz0 hz1 hz2 rfl (by decide) _ _ _ rfl hown ad D.length cu (D.map (Value.int .u8)) rfl (by simp) HN.out (one_cells D) (by unfold maxLen; omega) (by omega) s6 ?_)
          intro v7 w7 hown7 hgrow7 _
          have hr7 : Rowb w7 (w.heap.size + 1) v7 (X ++ D) := Rowb.of hown7 (by simp) (by simp)
          have hi7 : Rowi w7 (w.heap.size + 1) u1 told := World.ownsRow.kept hi6 hgrow7 (apart_of (by decide) hi6 hr6)
          have b7 := grown_below hr6 (Below.refl _ w6) s6 hgrow7
          have B7 : Below w.heap.size w w7 := B6.trans (b7.mono (Nat.le_succ _))
          rw [OE.out] at hr7
          clear hown hown7 hgrow7 hr6 hi6 q1 q2 q3 q4
          go_wp2_with fail
          go_ret3
          exact ⟨v7, u1, rfl, owns_base hr7 (Nat.le_succ _), owns_base hi7 (Nat.le_succ _), B7, OL.out, OB.out, hl2, TB.out⟩
    · rw [if_pos k1] at hk; simp at hk
  · rw [if_pos k0] at hk; exact absurd hk k0

set_option maxHeartbeats 2000000 in
set_option maxRecDepth 100000 in
theorem rwrite_bad {x y z u : Option Addr} {c d cz cu l l' lz lu : Nat} (k : Int) (ms starts D : List Int) (n : List ByteArray) (ty cl ttl : Int) (w : World) (h : Bys w x c ms) (hz : Ints w z cz starts) (hn : Strs w y d n)
    (hl : ms.length = l) (hl' : n.length = l') (hlz : starts.length = lz) (hlu : D.length = lu) (hm : ms.length ≤ 140737488354900) (hs : starts.length ≤ 17592186044100) (hd : D.length ≤ 200000000000000) (hk : recE n ty cl ttl D = k) (hk0 : ¬ k = 0) :
    Calls Tryd.prog 69 #[.slice x l c, .slice z lz cz, .agg #[.slice y l' d, .int .i64 ty, .int .i64 cl, .int .i64 ttl, .slice u lu cu]] w fun e w' => e = .returned (.tuple #[.slice none 0 0, .slice none 0 0, .iface 29 (.int .i64 k)]) ∧ Below w.heap.size w w' := by
  subst hl hl' hlz hlu
  unfold recE at hk
  by_cases k0 : Nm.checkN (n.map Nm.bs) = 0
  · rw [if_neg (by simp [k0])] at hk
    have K := hid k0
    clear k0
    by_cases k1 : (0 ≤ ty ∧ ty ≤ 65535) ∧ (0 ≤ cl ∧ cl ≤ 65535) ∧ (0 ≤ ttl ∧ ttl ≤ 4294967295)
    · rw [if_neg (by simp only [Decidable.not_not]; exact k1)] at hk
      by_cases k2 : 65535 < D.length
      · rw [if_pos k2] at hk
        subst hk
        obtain ⟨t1, t2, t3⟩ := k1
        have F1 := hid (decide_eq_true t1)
        have F2 := hid (decide_eq_true t2)
        have F3 := hid (decide_eq_true t3)
        have k3 : 65535 < (D.length : Int) := by omega
        clear t1 t2 t3 hk0
        go_enter Tryd.func69, Tryd.ntmps69
        go_wp2_with fail
        have B0 : Below w.heap.size w _ := (Below.refl _ w).alloc (Nat.le_refl _) (.cells #[.slice y n.length d, .int .i64 ty, .int .i64 cl, .int .i64 ttl, .slice u D.length cu] 67)
        have K0 := Bl.new 67 w #[.slice y n.length d, .int .i64 ty, .int .i64 cl, .int .i64 ttl, .slice u D.length cu]
        refine (pack_own (packOut ms n starts) (packTold ms n starts) ms starts n _ (h.below B0) (hz.below B0) (hn.below B0) rfl rfl rfl hm hs K.out rfl rfl).mono ?_
        rintro e w1 ⟨v1, u1, rfl, _, _, b1, _, _, _, _⟩
        have K1 := K0.below b1
        have B1 : Below w.heap.size w w1 := grown_on B0 b1
        clear B0 K0 b1
        have q1 : w1.cell? ⟨w.heap.size, 1, none⟩ = some (.int .i64 ty) := K1.cell (i := 1) rfl
        have q2 : w1.cell? ⟨w.heap.size, 2, none⟩ = some (.int .i64 cl) := K1.cell (i := 2) rfl
        have q3 : w1.cell? ⟨w.heap.size, 3, none⟩ = some (.int .i64 ttl) := K1.cell (i := 3) rfl
        have q4 : w1.cell? ⟨w.heap.size, 4, none⟩ = some (.slice u D.length cu) := K1.cell (i := 4) rfl
        clear K1
        go_wp2_with fail
        refine (rfits_at true ty 65535 _ F1.out).mono ?_
        rintro e w' ⟨rfl, rfl⟩
        go_wp2_with fail
        refine (rfits_at true cl 65535 _ F2.out).mono ?_
        rintro e w' ⟨rfl, rfl⟩
        go_wp2_with fail
        refine (rfits_at true ttl 4294967295 _ F3.out).mono ?_
        rintro e w' ⟨rfl, rfl⟩
        go_wp2_with fail
        go_ret3
        exact ⟨rfl, B1⟩
      · rw [if_neg k2] at hk
        exact absurd hk.symm hk0
    · rw [if_pos k1] at hk
      subst hk
      clear hk0
      by_cases c1 : 0 ≤ ty ∧ ty ≤ 65535
      · have F1 := hid (decide_eq_true c1)
        by_cases c2 : 0 ≤ cl ∧ cl ≤ 65535
        · have F2 := hid (decide_eq_true c2)
          have F3 : Hid (decide (0 ≤ ttl ∧ ttl ≤ 4294967295) = false) := hid (decide_eq_false (fun q => k1 ⟨c1, c2, q⟩))
          clear k1 c1 c2
          go_enter Tryd.func69, Tryd.ntmps69
          go_wp2_with fail
          have B0 : Below w.heap.size w _ := (Below.refl _ w).alloc (Nat.le_refl _) (.cells #[.slice y n.length d, .int .i64 ty, .int .i64 cl, .int .i64 ttl, .slice u D.length cu] 67)
          have K0 := Bl.new 67 w #[.slice y n.length d, .int .i64 ty, .int .i64 cl, .int .i64 ttl, .slice u D.length cu]
          refine (pack_own (packOut ms n starts) (packTold ms n starts) ms starts n _ (h.below B0) (hz.below B0) (hn.below B0) rfl rfl rfl hm hs K.out rfl rfl).mono ?_
          rintro e w1 ⟨v1, u1, rfl, _, _, b1, _, _, _, _⟩
          have K1 := K0.below b1
          have B1 : Below w.heap.size w w1 := grown_on B0 b1
          clear B0 K0 b1
          have q1 : w1.cell? ⟨w.heap.size, 1, none⟩ = some (.int .i64 ty) := K1.cell (i := 1) rfl
          have q2 : w1.cell? ⟨w.heap.size, 2, none⟩ = some (.int .i64 cl) := K1.cell (i := 2) rfl
          have q3 : w1.cell? ⟨w.heap.size, 3, none⟩ = some (.int .i64 ttl) := K1.cell (i := 3) rfl
          have q4 : w1.cell? ⟨w.heap.size, 4, none⟩ = some (.slice u D.length cu) := K1.cell (i := 4) rfl
          clear K1
          go_wp2_with fail
          refine (rfits_at true ty 65535 _ F1.out).mono ?_
          rintro e w' ⟨rfl, rfl⟩
          go_wp2_with fail
          refine (rfits_at true cl 65535 _ F2.out).mono ?_
          rintro e w' ⟨rfl, rfl⟩
          go_wp2_with fail
          refine (rfits_at false ttl 4294967295 _ F3.out).mono ?_
          rintro e w' ⟨rfl, rfl⟩
          go_wp2_with fail
          go_ret3
          exact ⟨rfl, B1⟩
        · have F2 := hid (decide_eq_false c2)
          clear k1 c1 c2
          go_enter Tryd.func69, Tryd.ntmps69
          go_wp2_with fail
          have B0 : Below w.heap.size w _ := (Below.refl _ w).alloc (Nat.le_refl _) (.cells #[.slice y n.length d, .int .i64 ty, .int .i64 cl, .int .i64 ttl, .slice u D.length cu] 67)
          have K0 := Bl.new 67 w #[.slice y n.length d, .int .i64 ty, .int .i64 cl, .int .i64 ttl, .slice u D.length cu]
          refine (pack_own (packOut ms n starts) (packTold ms n starts) ms starts n _ (h.below B0) (hz.below B0) (hn.below B0) rfl rfl rfl hm hs K.out rfl rfl).mono ?_
          rintro e w1 ⟨v1, u1, rfl, _, _, b1, _, _, _, _⟩
          have K1 := K0.below b1
          have B1 : Below w.heap.size w w1 := grown_on B0 b1
          clear B0 K0 b1
          have q1 : w1.cell? ⟨w.heap.size, 1, none⟩ = some (.int .i64 ty) := K1.cell (i := 1) rfl
          have q2 : w1.cell? ⟨w.heap.size, 2, none⟩ = some (.int .i64 cl) := K1.cell (i := 2) rfl
          have q3 : w1.cell? ⟨w.heap.size, 3, none⟩ = some (.int .i64 ttl) := K1.cell (i := 3) rfl
          have q4 : w1.cell? ⟨w.heap.size, 4, none⟩ = some (.slice u D.length cu) := K1.cell (i := 4) rfl
          clear K1
          go_wp2_with fail
          refine (rfits_at true ty 65535 _ F1.out).mono ?_
          rintro e w' ⟨rfl, rfl⟩
          go_wp2_with fail
          refine (rfits_at false cl 65535 _ F2.out).mono ?_
          rintro e w' ⟨rfl, rfl⟩
          go_wp2_with fail
          go_ret3
          exact ⟨rfl, B1⟩
      · have F1 := hid (decide_eq_false c1)
        clear k1 c1
        go_enter Tryd.func69, Tryd.ntmps69
        go_wp2_with fail
        have B0 : Below w.heap.size w _ := (Below.refl _ w).alloc (Nat.le_refl _) (.cells #[.slice y n.length d, .int .i64 ty, .int .i64 cl, .int .i64 ttl, .slice u D.length cu] 67)
        have K0 := Bl.new 67 w #[.slice y n.length d, .int .i64 ty, .int .i64 cl, .int .i64 ttl, .slice u D.length cu]
        refine (pack_own (packOut ms n starts) (packTold ms n starts) ms starts n _ (h.below B0) (hz.below B0) (hn.below B0) rfl rfl rfl hm hs K.out rfl rfl).mono ?_
        rintro e w1 ⟨v1, u1, rfl, _, _, b1, _, _, _, _⟩
        have K1 := K0.below b1
        have B1 : Below w.heap.size w w1 := grown_on B0 b1
        clear B0 K0 b1
        have q1 : w1.cell? ⟨w.heap.size, 1, none⟩ = some (.int .i64 ty) := K1.cell (i := 1) rfl
        have q2 : w1.cell? ⟨w.heap.size, 2, none⟩ = some (.int .i64 cl) := K1.cell (i := 2) rfl
        have q3 : w1.cell? ⟨w.heap.size, 3, none⟩ = some (.int .i64 ttl) := K1.cell (i := 3) rfl
        have q4 : w1.cell? ⟨w.heap.size, 4, none⟩ = some (.slice u D.length cu) := K1.cell (i := 4) rfl
        clear K1
        go_wp2_with fail
        refine (rfits_at false ty 65535 _ F1.out).mono ?_
        rintro e w' ⟨rfl, rfl⟩
        go_wp2_with fail
        go_ret3
        exact ⟨rfl, B1⟩
  · rw [if_pos k0] at hk
    have K := hid hk
    have H0 := hid hk0
    clear hk hk0 k0
    go_enter Tryd.func69, Tryd.ntmps69
    go_wp2_with fail
    have B0 : Below w.heap.size w _ := (Below.refl _ w).alloc (Nat.le_refl _) (.cells #[.slice y n.length d, .int .i64 ty, .int .i64 cl, .int .i64 ttl, .slice u D.length cu] 67)
    have K0 := Bl.new 67 w #[.slice y n.length d, .int .i64 ty, .int .i64 cl, .int .i64 ttl, .slice u D.length cu]
    have q0 : World.cell? (w.alloc (.cells #[.slice y n.length d, .int .i64 ty, .int .i64 cl, .int .i64 ttl, .slice u D.length cu] 67)) ⟨w.heap.size, 0, none⟩ = some (.slice y n.length d) := K0.cell (i := 0) rfl
    refine (pack_bad k n _ (hn.below B0) rfl K.out H0.out).mono ?_
    rintro e w1 ⟨rfl, rfl⟩
    go_wp2_with fail
    go_ret3
    exact ⟨rfl, B0⟩

end Go.Proofs.YtbbgabdiikdjpaaDoor
