/-
  The walk of package edns' recordOf: the record that has what a message is to tell of itself.
-/
import Derived.Test.YtpmbbaacpnooeaaOp
import Derived.Test.YtpmbbaacpnooeaaHeadWrite
namespace Go.Proofs.Ytpmbbaacpnooeaa
open Go.RowKit Go.Deep

structure Ot where
  size : Int
  code : Int
  ver : Int
  dO : Bool
  z : Int
  os : List On

/-- Its numbers may be. -/
def OtIn (o : Ot) : Prop := (0 ≤ o.size ∧ o.size ≤ 65535) ∧ (0 ≤ o.code ∧ o.code ≤ 255) ∧ (0 ≤ o.ver ∧ o.ver ≤ 255) ∧ (0 ≤ o.z ∧ o.z ≤ 32767)

instance (o : Ot) : Decidable (OtIn o) := by unfold OtIn; infer_instance

/-- What is wrong with what a message is to tell. -/
def otE (o : Ot) : Int := if ¬ OtIn o then 6 else dataE o.os

def ttlN (o : Ot) : Int := o.code * 16777216 + o.ver * 65536 + o.z + (if o.dO = true then 32768 else 0)

/-- The record that has it. -/
def otR (o : Ot) : Rn := ⟨[], 41, o.size, ttlN o, optB o.os⟩

theorem results_recof (tmps : Array Value) (w : World) (b : Nat) (v0 v1 v2 v3 v4 : Value) (hp : tmps.getD 2 undef = .pointer (some ⟨b, 0, none⟩)) (hb : Bl 57 w b #[v0, v1, v2, v3, v4]) :
    (results Try.f17 tmps).run Try.prog w = .ok (.tuple #[.agg #[v0, v1, v2, v3, v4], tmps.getD 3 undef]) w := by
  have c0 : w.cell? ⟨b, 0, none⟩ = some v0 := hb.cell (i := 0) rfl
  have c1 : w.cell? ⟨b, 1, none⟩ = some v1 := hb.cell (i := 1) rfl
  have c2 : w.cell? ⟨b, 2, none⟩ = some v2 := hb.cell (i := 2) rfl
  have c3 : w.cell? ⟨b, 3, none⟩ = some v3 := hb.cell (i := 3) rfl
  have c4 : w.cell? ⟨b, 4, none⟩ = some v4 := hb.cell (i := 4) rfl
  have hp' : tmps[2]?.getD undef = .pointer (some ⟨b, 0, none⟩) := by simpa using hp
  simp [results, Try.results17, go_sem, hp', c0, c1, c2, c3, c4]

set_option maxHeartbeats 2000000 in
set_option maxRecDepth 100000 in
theorem recordOf_range {x : Option Addr} {c : Nat} (o : Ot) (w : World) (h : ¬ OtIn o) :
    Calls Try.prog 17 #[.agg #[.int .i64 o.size, .int .i64 o.code, .int .i64 o.ver, .bool o.dO, .int .i64 o.z, .slice x o.os.length c]] w fun e w' => e = .returned (.tuple #[.agg #[.slice none 0 0, .int .i64 0, .int .i64 0, .int .i64 0, .slice none 0 0], .iface 74 (.int .i64 6)]) ∧ Below w.heap.size w w' := by
  obtain ⟨k1, k2, k3⟩ := Bl.two 30 57 w #[.int .i64 o.size, .int .i64 o.code, .int .i64 o.ver, .bool o.dO, .int .i64 o.z, .slice x o.os.length c] #[.slice none 0 0, .int .i64 0, .int .i64 0, .int .i64 0, .slice none 0 0]
  have K2 := hid k2
  have K3 := hid k3
  clear k1 k2 k3
  by_cases c1 : 0 ≤ o.size ∧ o.size ≤ 65535
  · by_cases c2 : 0 ≤ o.code ∧ o.code ≤ 255
    · by_cases c3 : 0 ≤ o.ver ∧ o.ver ≤ 255
      · have c4 : ¬ (0 ≤ o.z ∧ o.z ≤ 32767) := fun q => h ⟨c1, c2, c3, q⟩
        clear h
        go_enter Try.func17, Try.ntmps17
        go_wp2_with fail
        refine (rfits_at true o.size 65535 _ (by simpa using c1)).mono ?_
        rintro e w1 ⟨rfl, rfl⟩
        go_wp2_with fail
        refine (rfits_at true o.code 255 _ (by simpa using c2)).mono ?_
        rintro e w1 ⟨rfl, rfl⟩
        go_wp2_with fail
        refine (rfits_at true o.ver 255 _ (by simpa using c3)).mono ?_
        rintro e w1 ⟨rfl, rfl⟩
        go_wp2_with fail
        refine (rfits_at false o.z 32767 _ (by simpa using c4)).mono ?_
        rintro e w1 ⟨rfl, rfl⟩
        go_wp2_with fail
        refine bodyPost_ret (results_recof _ _ (w.heap.size + 1) _ _ _ _ _ rfl K2.out) rfl ?_
        exact ⟨rfl, K3.out⟩
      · clear h
        go_enter Try.func17, Try.ntmps17
        go_wp2_with fail
        refine (rfits_at true o.size 65535 _ (by simpa using c1)).mono ?_
        rintro e w1 ⟨rfl, rfl⟩
        go_wp2_with fail
        refine (rfits_at true o.code 255 _ (by simpa using c2)).mono ?_
        rintro e w1 ⟨rfl, rfl⟩
        go_wp2_with fail
        refine (rfits_at false o.ver 255 _ (by simpa using c3)).mono ?_
        rintro e w1 ⟨rfl, rfl⟩
        go_wp2_with fail
        refine bodyPost_ret (results_recof _ _ (w.heap.size + 1) _ _ _ _ _ rfl K2.out) rfl ?_
        exact ⟨rfl, K3.out⟩
    · clear h
      go_enter Try.func17, Try.ntmps17
      go_wp2_with fail
      refine (rfits_at true o.size 65535 _ (by simpa using c1)).mono ?_
      rintro e w1 ⟨rfl, rfl⟩
      go_wp2_with fail
      refine (rfits_at false o.code 255 _ (by simpa using c2)).mono ?_
      rintro e w1 ⟨rfl, rfl⟩
      go_wp2_with fail
      refine bodyPost_ret (results_recof _ _ (w.heap.size + 1) _ _ _ _ _ rfl K2.out) rfl ?_
      exact ⟨rfl, K3.out⟩
  · clear h
    go_enter Try.func17, Try.ntmps17
    go_wp2_with fail
    refine (rfits_at false o.size 65535 _ (by simpa using c1)).mono ?_
    rintro e w1 ⟨rfl, rfl⟩
    go_wp2_with fail
    refine bodyPost_ret (results_recof _ _ (w.heap.size + 1) _ _ _ _ _ rfl K2.out) rfl ?_
    exact ⟨rfl, K3.out⟩

theorem ttl_one (o : Ot) (h : OtIn o) : bits .or .i64 (o.code * 16777216) (o.ver * 65536) = o.code * 16777216 + o.ver * 65536 := by
  obtain ⟨_, ⟨h1, h2⟩, ⟨h3, h4⟩, _⟩ := h
  exact bits_join .i64 62 (by decide) wrap_i64 24 _ _ (by omega) (by omega) (by omega) (by omega) (by omega) (by omega)

theorem ttl_two (o : Ot) (h : OtIn o) : bits .or .i64 (o.code * 16777216 + o.ver * 65536) o.z = o.code * 16777216 + o.ver * 65536 + o.z := by
  obtain ⟨_, ⟨h1, h2⟩, ⟨h3, h4⟩, ⟨h5, h6⟩⟩ := h
  exact bits_join .i64 62 (by decide) wrap_i64 16 _ _ (by omega) (by omega) (by omega) (by omega) (by omega) (by omega)

theorem ttl_three (o : Ot) (h : OtIn o) : bits .or .i64 (o.code * 16777216 + o.ver * 65536 + o.z) 32768 = o.code * 16777216 + o.ver * 65536 + o.z + 32768 := by
  obtain ⟨_, ⟨h1, h2⟩, ⟨h3, h4⟩, ⟨h5, h6⟩⟩ := h
  exact or_bit _ _ 15 (by decide) (by decide) (by omega) (by omega) (by omega)

set_option maxHeartbeats 2000000 in
set_option maxRecDepth 100000 in
theorem recordOf_data {x : Option Addr} {c bq : Nat} (k : Int) (o : Ot) (w : World) (h : OtIn o) (hs : Ops w bq x c o.os) (hk : dataE o.os = k) (h0 : ¬ k = 0) :
    Calls Try.prog 17 #[.agg #[.int .i64 o.size, .int .i64 o.code, .int .i64 o.ver, .bool o.dO, .int .i64 o.z, .slice x o.os.length c]] w fun e w' => e = .returned (.tuple #[.agg #[.slice none 0 0, .int .i64 0, .int .i64 0, .int .i64 0, .slice none 0 0], .iface 74 (.int .i64 k)]) ∧ Below w.heap.size w w' := by
  obtain ⟨k1, k2, k3⟩ := Bl.two 30 57 w #[.int .i64 o.size, .int .i64 o.code, .int .i64 o.ver, .bool o.dO, .int .i64 o.z, .slice x o.os.length c] #[.slice none 0 0, .int .i64 0, .int .i64 0, .int .i64 0, .slice none 0 0]
  obtain ⟨c1, c2, c3, c4⟩ := h
  have K2 := hid k2
  have K3 := hid k3
  have HS := hid (hs.below k3)
  have HK := hid hk
  have H0 := hid h0
  clear k1 k2 k3 hs hk h0
  go_enter Try.func17, Try.ntmps17
  go_wp2_with fail
  refine (rfits_at true o.size 65535 _ (by simpa using c1)).mono ?_
  rintro e w1 ⟨rfl, rfl⟩
  go_wp2_with fail
  refine (rfits_at true o.code 255 _ (by simpa using c2)).mono ?_
  rintro e w1 ⟨rfl, rfl⟩
  go_wp2_with fail
  refine (rfits_at true o.ver 255 _ (by simpa using c3)).mono ?_
  rintro e w1 ⟨rfl, rfl⟩
  go_wp2_with fail
  refine (rfits_at true o.z 32767 _ (by simpa using c4)).mono ?_
  rintro e w1 ⟨rfl, rfl⟩
  go_wp2_with fail
  refine (dataOf_bad k o.os _ HS.out rfl HK.out H0.out).mono ?_
  rintro e w2 ⟨rfl, b2⟩
  have L2 := hid (K2.out.below b2)
  have L3 := hid (grown_on K3.out b2)
  have f0 : w2.frozen? ⟨w.heap.size + 1, 0, none⟩ = false := L2.out.frozen 0
  have f1 : w2.frozen? ⟨w.heap.size + 1, 1, none⟩ = false := L2.out.frozen 1
  have f2 : w2.frozen? ⟨w.heap.size + 1, 2, none⟩ = false := L2.out.frozen 2
  have f3 : w2.frozen? ⟨w.heap.size + 1, 3, none⟩ = false := L2.out.frozen 3
  have f4 : w2.frozen? ⟨w.heap.size + 1, 4, none⟩ = false := L2.out.frozen 4
  have g0 : w2.cell? ⟨w.heap.size + 1, 0, none⟩ = some (.slice none 0 0) := L2.out.cell (i := 0) rfl
  have g1 : w2.cell? ⟨w.heap.size + 1, 1, none⟩ = some (.int .i64 0) := L2.out.cell (i := 1) rfl
  have g2 : w2.cell? ⟨w.heap.size + 1, 2, none⟩ = some (.int .i64 0) := L2.out.cell (i := 2) rfl
  have g3 : w2.cell? ⟨w.heap.size + 1, 3, none⟩ = some (.int .i64 0) := L2.out.cell (i := 3) rfl
  have g4 : w2.cell? ⟨w.heap.size + 1, 4, none⟩ = some (.slice none 0 0) := L2.out.cell (i := 4) rfl
  clear b2
  go_wp2_with fail
  refine bodyPost_ret (results_recof _ _ (w.heap.size + 1) _ _ _ _ _ rfl (L2.out.put5 _ _ _ _ _)) rfl ?_
  exact ⟨rfl, below_put5 L3.out (Nat.le_succ _) _ _ _ _ _⟩

/-- The record of what a message is to tell, in memory of its own. -/
def ORec (o : Ot) (w : World) (e : Ending) (w' : World) : Prop :=
  ∃ z t, e = .returned (.tuple #[.agg #[.slice none 0 0, .int .i64 41, .int .i64 o.size, .int .i64 (ttlN o), .slice z (optB o.os).length t], .nilIface]) ∧ Bys w' z t (optB o.os) ∧ (z = none → t = 0) ∧ (∀ a, z = some a → w.heap.size ≤ a.block) ∧ Below w.heap.size w w'

theorem optB_bytes {os : List On} (h : ∀ o ∈ os, ∀ b ∈ o.D, 0 ≤ b ∧ b ≤ 255) : ∀ b ∈ optB os, 0 ≤ b ∧ b ≤ 255 := by
  intro b hb
  obtain ⟨o, ho, hb⟩ := List.mem_flatMap.1 hb
  simp only [List.mem_append] at hb
  rcases hb with (hb | hb) | hb
  · exact two_bytes _ b hb
  · exact two_bytes _ b hb
  · exact h o ho b hb

theorem Ops.data {w : World} {B : Nat} {x : Option Addr} {c : Nat} {os : List On} (h : Ops w B x c os) : ∀ o ∈ os, ∀ b ∈ o.D, 0 ≤ b ∧ b ≤ 255 := by
  intro o ho
  obtain ⟨i, hi, rfl⟩ := List.mem_iff_getElem.1 ho
  obtain ⟨_, _, _, _, _, _, _, _, q, _⟩ := h.at hi
  exact q.2.2.1

theorem dataE_zero {os : List On} (h : dataE os = 0) : optE os = 0 ∧ optSize os ≤ 65535 := by
  unfold dataE at h
  by_cases c1 : optE os = 0
  · rw [if_neg (by simpa using c1)] at h
    by_cases c2 : 65535 < optSize os
    · rw [if_pos c2] at h; cases h
    · exact ⟨c1, by omega⟩
  · rw [if_pos c1] at h; exact absurd h c1

set_option maxHeartbeats 2000000 in
set_option maxRecDepth 100000 in
theorem recordOf_good {x : Option Addr} {c bq : Nat} (o : Ot) (w : World) (h : OtIn o) (hs : Ops w bq x c o.os) (hk : dataE o.os = 0) :
    Calls Try.prog 17 #[.agg #[.int .i64 o.size, .int .i64 o.code, .int .i64 o.ver, .bool o.dO, .int .i64 o.z, .slice x o.os.length c]] w (ORec o w) := by
  obtain ⟨k1, k2, k3⟩ := Bl.two 30 57 w #[.int .i64 o.size, .int .i64 o.code, .int .i64 o.ver, .bool o.dO, .int .i64 o.z, .slice x o.os.length c] #[.slice none 0 0, .int .i64 0, .int .i64 0, .int .i64 0, .slice none 0 0]
  have T1 := ttl_one o h
  have T2 := ttl_two o h
  have T3 := ttl_three o h
  obtain ⟨c1, c2, c3, c4⟩ := h
  have hbB := optB_bytes hs.data
  have hlB : (optB o.os).length ≤ 65535 := by rw [optB_len]; exact (dataE_zero hk).2
  have K1 := hid k1
  have K2 := hid k2
  have K3 := hid k3
  have HS := hid (hs.below k3)
  have HK := hid hk
  have HB := hid hbB
  clear k1 k2 k3 hs hk hbB
  go_enter Try.func17, Try.ntmps17
  go_wp2_with fail
  refine (rfits_at true o.size 65535 _ (by simpa using c1)).mono ?_
  rintro e w1 ⟨rfl, rfl⟩
  go_wp2_with fail
  refine (rfits_at true o.code 255 _ (by simpa using c2)).mono ?_
  rintro e w1 ⟨rfl, rfl⟩
  go_wp2_with fail
  refine (rfits_at true o.ver 255 _ (by simpa using c3)).mono ?_
  rintro e w1 ⟨rfl, rfl⟩
  go_wp2_with fail
  refine (rfits_at true o.z 32767 _ (by simpa using c4)).mono ?_
  rintro e w1 ⟨rfl, rfl⟩
  go_wp2_with fail
  refine (dataOf_good o.os _ HS.out rfl HK.out).mono ?_
  rintro e w2 ⟨v, rfl, r2, b2⟩
  obtain ⟨z, t, rfl, y1, y2, y3⟩ := rowb_new r2 (by omega) HB.out
  have Y1 := hid y1
  have Y2 := hid y2
  have Y3 : Hid (∀ p, z = some p → w.heap.size + 2 ≤ p.block) := hid (fun p hp => by have := y3 p hp; simpa using this)
  have L1 := hid (K1.out.below b2)
  have L2 := hid (K2.out.below b2)
  have L3 := hid (grown_on K3.out b2)
  have f0 : w2.frozen? ⟨w.heap.size + 1, 0, none⟩ = false := L2.out.frozen 0
  have f1 : w2.frozen? ⟨w.heap.size + 1, 1, none⟩ = false := L2.out.frozen 1
  have f2 : w2.frozen? ⟨w.heap.size + 1, 2, none⟩ = false := L2.out.frozen 2
  have f3 : w2.frozen? ⟨w.heap.size + 1, 3, none⟩ = false := L2.out.frozen 3
  have f4 : w2.frozen? ⟨w.heap.size + 1, 4, none⟩ = false := L2.out.frozen 4
  have g0 : w2.cell? ⟨w.heap.size + 1, 0, none⟩ = some (.slice none 0 0) := L2.out.cell (i := 0) rfl
  have g1 : w2.cell? ⟨w.heap.size + 1, 1, none⟩ = some (.int .i64 0) := L2.out.cell (i := 1) rfl
  have g2 : w2.cell? ⟨w.heap.size + 1, 2, none⟩ = some (.int .i64 0) := L2.out.cell (i := 2) rfl
  have g3 : w2.cell? ⟨w.heap.size + 1, 3, none⟩ = some (.int .i64 0) := L2.out.cell (i := 3) rfl
  have g4 : w2.cell? ⟨w.heap.size + 1, 4, none⟩ = some (.slice none 0 0) := L2.out.cell (i := 4) rfl
  have j0 : w2.cell? ⟨w.heap.size, 0, none⟩ = some (.int .i64 o.size) := L1.out.cell (i := 0) rfl
  have j1 : w2.cell? ⟨w.heap.size, 1, none⟩ = some (.int .i64 o.code) := L1.out.cell (i := 1) rfl
  have j2 : w2.cell? ⟨w.heap.size, 2, none⟩ = some (.int .i64 o.ver) := L1.out.cell (i := 2) rfl
  have j3 : w2.cell? ⟨w.heap.size, 3, none⟩ = some (.bool o.dO) := L1.out.cell (i := 3) rfl
  have j4 : w2.cell? ⟨w.heap.size, 4, none⟩ = some (.int .i64 o.z) := L1.out.cell (i := 4) rfl
  have j5 : w2.cell? ⟨w.heap.size, 5, none⟩ = some (.slice x o.os.length c) := L1.out.cell (i := 5) rfl
  clear b2 r2 y1 y2 y3 K1 K2 K3 HS
  cases hd : o.dO with
  | true =>
    have TT : Hid (o.code * 16777216 + o.ver * 65536 + o.z + 32768 = ttlN o) := hid (by unfold ttlN; rw [if_pos hd])
    rw [hd] at j3
    go_wp2_with fail
    refine bodyPost_ret (results_recof _ _ (w.heap.size + 1) _ _ _ _ _ rfl (L2.out.put5 _ _ _ _ _)) rfl ?_
    exact ⟨z, t, by rw [← TT.out]; rfl, Y1.out.far5 (fun a e => by have := Y3.out a e; omega) _ _ _ _ _, Y2.out, fun a e => by have := Y3.out a e; omega, below_put5 L3.out (Nat.le_succ _) _ _ _ _ _⟩
  | false =>
    have TT : Hid (o.code * 16777216 + o.ver * 65536 + o.z = ttlN o) := hid (by unfold ttlN; rw [hd]; simp)
    rw [hd] at j3
    go_wp2_with fail
    refine bodyPost_ret (results_recof _ _ (w.heap.size + 1) _ _ _ _ _ rfl (L2.out.put5 _ _ _ _ _)) rfl ?_
    exact ⟨z, t, by rw [← TT.out]; rfl, Y1.out.far5 (fun a e => by have := Y3.out a e; omega) _ _ _ _ _, Y2.out, fun a e => by have := Y3.out a e; omega, below_put5 L3.out (Nat.le_succ _) _ _ _ _ _⟩

end Go.Proofs.Ytpmbbaacpnooeaa
