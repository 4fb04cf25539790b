/-
  The walk of package edns' recordOf: the record that has what a message is to tell of itself. Options read out of bytes, plain: what was written is read. A law of my own: a region that draws its order: operations that only read and call nothing are taken first, in the order of the text; the others stand in a row, each waiting for those ahead of it. And such a region within a round of a range over a function. The walk of msg.Read: the message of bytes, in new memory; nothing that was there is written. Plain facts on messages: a beginning alone is too short, bytes behind are too many; how long a message can be; a message without anything. Plain: what was written is read: the parts one behind the other, the whole message; and what was read can be written, if it is not too long. The walk of package edns' optionsOf: options read out of bytes, in memory of the call's own. The walk of package edns' optOf: what a record tells of its message.
-/
import Derived.Test.YtpmbbaacpnooeaaDoorOp
import Derived.Test.YtpmbbaacpnooeaaDoorHeadWrite
import Derived.BigQuiet
import Derived.OrdersHeld
import Derived.OrdersIn
import Derived.RangeFuncCalls
import Derived.Test.YtpmbbaacpnooeaaDoorMgHead
import Derived.Deep.Cut
import Derived.Test.YtpmbbaacpnooeaaDoorMgWrite
import Derived.Test.YtpmbbaacpnooeaaDoorRrRead
import Derived.Test.YtpmbbaacpnooeaaDoorMgMem
import Derived.Maps.AppendAt
namespace Go.Proofs.YtpmbbaacpnooeaaDoor
open Go.RowKit Go.Deep

structure Ot where
  size : Int
  code : Int
  ver : Int
  dO : Bool
  z : Int
  os : List On

/-- Its numbers may be. -/
def OtIn (o : Ot) : Prop := (0 ≤ o.size ∧ o.size ≤ 65535) ∧ (0 ≤ o.code ∧ o.code ≤ 255) ∧ (0 ≤ o.ver ∧ o.ver ≤ 255) ∧ (0 ≤ o.z ∧ o.z ≤ 32767)

instance (o : Ot) : Decidable (OtIn o) := by unfold OtIn; infer_instance

/-- What is wrong with what a message is to tell. -/
def otE (o : Ot) : Int := if ¬ OtIn o then 6 else dataE o.os

def ttlN (o : Ot) : Int := o.code * 16777216 + o.ver * 65536 + o.z + (if o.dO = true then 32768 else 0)

/-- The record that has it. -/
def otR (o : Ot) : Rn := ⟨[], 41, o.size, ttlN o, optB o.os⟩

theorem results_recof (tmps : Array Value) (w : World) (b : Nat) (v0 v1 v2 v3 v4 : Value) (hp : tmps.getD 2 undef = .pointer (some ⟨b, 0, none⟩)) (hb : Bl 69 w b #[v0, v1, v2, v3, v4]) :
    (results Tryd.f52 tmps).run Tryd.prog w = .ok (.tuple #[.agg #[v0, v1, v2, v3, v4], tmps.getD 3 undef]) w := by
  have c0 : w.cell? ⟨b, 0, none⟩ = some v0 := hb.cell (i := 0) rfl
  have c1 : w.cell? ⟨b, 1, none⟩ = some v1 := hb.cell (i := 1) rfl
  have c2 : w.cell? ⟨b, 2, none⟩ = some v2 := hb.cell (i := 2) rfl
  have c3 : w.cell? ⟨b, 3, none⟩ = some v3 := hb.cell (i := 3) rfl
  have c4 : w.cell? ⟨b, 4, none⟩ = some v4 := hb.cell (i := 4) rfl
  have hp' : tmps[2]?.getD undef = .pointer (some ⟨b, 0, none⟩) := by simpa using hp
  simp [results, Tryd.results52, go_sem, hp', c0, c1, c2, c3, c4]

set_option maxHeartbeats 2000000 in
set_option maxRecDepth 100000 in
theorem recordOf_range {x : Option Addr} {c : Nat} (o : Ot) (w : World) (h : ¬ OtIn o) :
    Calls Tryd.prog 52 #[.agg #[.int .i64 o.size, .int .i64 o.code, .int .i64 o.ver, .bool o.dO, .int .i64 o.z, .slice x o.os.length c]] w fun e w' => e = .returned (.tuple #[.agg #[.slice none 0 0, .int .i64 0, .int .i64 0, .int .i64 0, .slice none 0 0], .iface 29 (.int .i64 6)]) ∧ Below w.heap.size w w' := by
  obtain ⟨k1, k2, k3⟩ := Bl.two 46 69 w #[.int .i64 o.size, .int .i64 o.code, .int .i64 o.ver, .bool o.dO, .int .i64 o.z, .slice x o.os.length c] #[.slice none 0 0, .int .i64 0, .int .i64 0, .int .i64 0, .slice none 0 0]
  have K2 := hid k2
  have K3 := hid k3
  clear k1 k2 k3
  by_cases c1 : 0 ≤ o.size ∧ o.size ≤ 65535
  · by_cases c2 : 0 ≤ o.code ∧ o.code ≤ 255
    · by_cases c3 : 0 ≤ o.ver ∧ o.ver ≤ 255
      · have c4 : ¬ (0 ≤ o.z ∧ o.z ≤ 32767) := fun q => h ⟨c1, c2, c3, q⟩
        clear h
        go_enter Tryd.func52, Tryd.ntmps52
        go_wp2_with fail
        refine (rfits_at true o.size 65535 _ (by simpa using c1)).mono ?_
        rintro e w1 ⟨rfl, rfl⟩
        go_wp2_with fail
        refine (rfits_at true o.code 255 _ (by simpa using c2)).mono ?_
        rintro e w1 ⟨rfl, rfl⟩
        go_wp2_with fail
        refine (rfits_at true o.ver 255 _ (by simpa using c3)).mono ?_
        rintro e w1 ⟨rfl, rfl⟩
        go_wp2_with fail
        refine (rfits_at false o.z 32767 _ (by simpa using c4)).mono ?_
        rintro e w1 ⟨rfl, rfl⟩
        go_wp2_with fail
        refine bodyPost_ret (results_recof _ _ (w.heap.size + 1) _ _ _ _ _ rfl K2.out) rfl ?_
        exact ⟨rfl, K3.out⟩
      · clear h
        go_enter Tryd.func52, Tryd.ntmps52
        go_wp2_with fail
        refine (rfits_at true o.size 65535 _ (by simpa using c1)).mono ?_
        rintro e w1 ⟨rfl, rfl⟩
        go_wp2_with fail
        refine (rfits_at true o.code 255 _ (by simpa using c2)).mono ?_
        rintro e w1 ⟨rfl, rfl⟩
        go_wp2_with fail
        refine (rfits_at false o.ver 255 _ (by simpa using c3)).mono ?_
        rintro e w1 ⟨rfl, rfl⟩
        go_wp2_with fail
        refine bodyPost_ret (results_recof _ _ (w.heap.size + 1) _ _ _ _ _ rfl K2.out) rfl ?_
        exact ⟨rfl, K3.out⟩
    · clear h
      go_enter Tryd.func52, Tryd.ntmps52
      go_wp2_with fail
      refine (rfits_at true o.size 65535 _ (by simpa using c1)).mono ?_
      rintro e w1 ⟨rfl, rfl⟩
      go_wp2_with fail
      refine (rfits_at false o.code 255 _ (by simpa using c2)).mono ?_
      rintro e w1 ⟨rfl, rfl⟩
      go_wp2_with fail
      refine bodyPost_ret (results_recof _ _ (w.heap.size + 1) _ _ _ _ _ rfl K2.out) rfl ?_
      exact ⟨rfl, K3.out⟩
  · clear h
    go_enter Tryd.func52, Tryd.ntmps52
    go_wp2_with fail
    refine (rfits_at false o.size 65535 _ (by simpa using c1)).mono ?_
    rintro e w1 ⟨rfl, rfl⟩
    go_wp2_with fail
    refine bodyPost_ret (results_recof _ _ (w.heap.size + 1) _ _ _ _ _ rfl K2.out) rfl ?_
    exact ⟨rfl, K3.out⟩

theorem ttl_one (o : Ot) (h : OtIn o) : bits .or .i64 (o.code * 16777216) (o.ver * 65536) = o.code * 16777216 + o.ver * 65536 := by
  obtain ⟨_, ⟨h1, h2⟩, ⟨h3, h4⟩, _⟩ := h
  exact bits_join .i64 62 (by decide) wrap_i64 24 _ _ (by omega) (by omega) (by omega) (by omega) (by omega) (by omega)

theorem ttl_two (o : Ot) (h : OtIn o) : bits .or .i64 (o.code * 16777216 + o.ver * 65536) o.z = o.code * 16777216 + o.ver * 65536 + o.z := by
  obtain ⟨_, ⟨h1, h2⟩, ⟨h3, h4⟩, ⟨h5, h6⟩⟩ := h
  exact bits_join .i64 62 (by decide) wrap_i64 16 _ _ (by omega) (by omega) (by omega) (by omega) (by omega) (by omega)

theorem ttl_three (o : Ot) (h : OtIn o) : bits .or .i64 (o.code * 16777216 + o.ver * 65536 + o.z) 32768 = o.code * 16777216 + o.ver * 65536 + o.z + 32768 := by
  obtain ⟨_, ⟨h1, h2⟩, ⟨h3, h4⟩, ⟨h5, h6⟩⟩ := h
  exact or_bit _ _ 15 (by decide) (by decide) (by omega) (by omega) (by omega)

set_option maxHeartbeats 2000000 in
set_option maxRecDepth 100000 in
theorem recordOf_data {x : Option Addr} {c bq : Nat} (k : Int) (o : Ot) (w : World) (h : OtIn o) (hs : Ops w bq x c o.os) (hk : dataE o.os = k) (h0 : ¬ k = 0) :
    Calls Tryd.prog 52 #[.agg #[.int .i64 o.size, .int .i64 o.code, .int .i64 o.ver, .bool o.dO, .int .i64 o.z, .slice x o.os.length c]] w fun e w' => e = .returned (.tuple #[.agg #[.slice none 0 0, .int .i64 0, .int .i64 0, .int .i64 0, .slice none 0 0], .iface 29 (.int .i64 k)]) ∧ Below w.heap.size w w' := by
  obtain ⟨k1, k2, k3⟩ := Bl.two 46 69 w #[.int .i64 o.size, .int .i64 o.code, .int .i64 o.ver, .bool o.dO, .int .i64 o.z, .slice x o.os.length c] #[.slice none 0 0, .int .i64 0, .int .i64 0, .int .i64 0, .slice none 0 0]
  obtain ⟨c1, c2, c3, c4⟩ := h
  have K2 := hid k2
  have K3 := hid k3
  have HS := hid (hs.below k3)
  have HK := hid hk
  have H0 := hid h0
  clear k1 k2 k3 hs hk h0
  go_enter Tryd.func52, Tryd.ntmps52
  go_wp2_with fail
  refine (rfits_at true o.size 65535 _ (by simpa using c1)).mono ?_
  rintro e w1 ⟨rfl, rfl⟩
  go_wp2_with fail
  refine (rfits_at true o.code 255 _ (by simpa using c2)).mono ?_
  rintro e w1 ⟨rfl, rfl⟩
  go_wp2_with fail
  refine (rfits_at true o.ver 255 _ (by simpa using c3)).mono ?_
  rintro e w1 ⟨rfl, rfl⟩
  go_wp2_with fail
  refine (rfits_at true o.z 32767 _ (by simpa using c4)).mono ?_
  rintro e w1 ⟨rfl, rfl⟩
  go_wp2_with fail
  refine (dataOf_bad k o.os _ HS.out rfl HK.out H0.out).mono ?_
  rintro e w2 ⟨rfl, b2⟩
  have L2 := hid (K2.out.below b2)
  have L3 := hid (grown_on K3.out b2)
  have f0 : w2.frozen? ⟨w.heap.size + 1, 0, none⟩ = false := L2.out.frozen 0
  have f1 : w2.frozen? ⟨w.heap.size + 1, 1, none⟩ = false := L2.out.frozen 1
  have f2 : w2.frozen? ⟨w.heap.size + 1, 2, none⟩ = false := L2.out.frozen 2
  have f3 : w2.frozen? ⟨w.heap.size + 1, 3, none⟩ = false := L2.out.frozen 3
  have f4 : w2.frozen? ⟨w.heap.size + 1, 4, none⟩ = false := L2.out.frozen 4
  have g0 : w2.cell? ⟨w.heap.size + 1, 0, none⟩ = some (.slice none 0 0) := L2.out.cell (i := 0) rfl
  have g1 : w2.cell? ⟨w.heap.size + 1, 1, none⟩ = some (.int .i64 0) := L2.out.cell (i := 1) rfl
  have g2 : w2.cell? ⟨w.heap.size + 1, 2, none⟩ = some (.int .i64 0) := L2.out.cell (i := 2) rfl
  have g3 : w2.cell? ⟨w.heap.size + 1, 3, none⟩ = some (.int .i64 0) := L2.out.cell (i := 3) rfl
  have g4 : w2.cell? ⟨w.heap.size + 1, 4, none⟩ = some (.slice none 0 0) := L2.out.cell (i := 4) rfl
  clear b2
  go_wp2_with fail
  refine bodyPost_ret (results_recof _ _ (w.heap.size + 1) _ _ _ _ _ rfl (L2.out.put5 _ _ _ _ _)) rfl ?_
  exact ⟨rfl, below_put5 L3.out (Nat.le_succ _) _ _ _ _ _⟩

/-- The record of what a message is to tell, in memory of its own. -/
def ORec (o : Ot) (w : World) (e : Ending) (w' : World) : Prop :=
  ∃ z t, e = .returned (.tuple #[.agg #[.slice none 0 0, .int .i64 41, .int .i64 o.size, .int .i64 (ttlN o), .slice z (optB o.os).length t], .nilIface]) ∧ Bys w' z t (optB o.os) ∧ (z = none → t = 0) ∧ (∀ a, z = some a → w.heap.size ≤ a.block) ∧ Below w.heap.size w w'

theorem optB_bytes {os : List On} (h : ∀ o ∈ os, ∀ b ∈ o.D, 0 ≤ b ∧ b ≤ 255) : ∀ b ∈ optB os, 0 ≤ b ∧ b ≤ 255 := by
  intro b hb
  obtain ⟨o, ho, hb⟩ := List.mem_flatMap.1 hb
  simp only [List.mem_append] at hb
  rcases hb with (hb | hb) | hb
  · exact two_bytes _ b hb
  · exact two_bytes _ b hb
  · exact h o ho b hb

theorem Ops.data {w : World} {B : Nat} {x : Option Addr} {c : Nat} {os : List On} (h : Ops w B x c os) : ∀ o ∈ os, ∀ b ∈ o.D, 0 ≤ b ∧ b ≤ 255 := by
  intro o ho
  obtain ⟨i, hi, rfl⟩ := List.mem_iff_getElem.1 ho
  obtain ⟨_, _, _, _, _, _, _, _, q, _⟩ := h.at hi
  exact q.2.2.1

theorem dataE_zero {os : List On} (h : dataE os = 0) : optE os = 0 ∧ optSize os ≤ 65535 := by
  unfold dataE at h
  by_cases c1 : optE os = 0
  · rw [if_neg (by simpa using c1)] at h
    by_cases c2 : 65535 < optSize os
    · rw [if_pos c2] at h; cases h
    · exact ⟨c1, by omega⟩
  · rw [if_pos c1] at h; exact absurd h c1

set_option maxHeartbeats 2000000 in
set_option maxRecDepth 100000 in
theorem recordOf_good {x : Option Addr} {c bq : Nat} (o : Ot) (w : World) (h : OtIn o) (hs : Ops w bq x c o.os) (hk : dataE o.os = 0) :
    Calls Tryd.prog 52 #[.agg #[.int .i64 o.size, .int .i64 o.code, .int .i64 o.ver, .bool o.dO, .int .i64 o.z, .slice x o.os.length c]] w (ORec o w) := by
  obtain ⟨k1, k2, k3⟩ := Bl.two 46 69 w #[.int .i64 o.size, .int .i64 o.code, .int .i64 o.ver, .bool o.dO, .int .i64 o.z, .slice x o.os.length c] #[.slice none 0 0, .int .i64 0, .int .i64 0, .int .i64 0, .slice none 0 0]
  have T1 := ttl_one o h
  have T2 := ttl_two o h
  have T3 := ttl_three o h
  obtain ⟨c1, c2, c3, c4⟩ := h
  have hbB := optB_bytes hs.data
  have hlB : (optB o.os).length ≤ 65535 := by rw [optB_len]; exact (dataE_zero hk).2
  have K1 := hid k1
  have K2 := hid k2
  have K3 := hid k3
  have HS := hid (hs.below k3)
  have HK := hid hk
  have HB := hid hbB
  clear k1 k2 k3 hs hk hbB
  go_enter Tryd.func52, Tryd.ntmps52
  go_wp2_with fail
  refine (rfits_at true o.size 65535 _ (by simpa using c1)).mono ?_
  rintro e w1 ⟨rfl, rfl⟩
  go_wp2_with fail
  refine (rfits_at true o.code 255 _ (by simpa using c2)).mono ?_
  rintro e w1 ⟨rfl, rfl⟩
  go_wp2_with fail
  refine (rfits_at true o.ver 255 _ (by simpa using c3)).mono ?_
  rintro e w1 ⟨rfl, rfl⟩
  go_wp2_with fail
  refine (rfits_at true o.z 32767 _ (by simpa using c4)).mono ?_
  rintro e w1 ⟨rfl, rfl⟩
  go_wp2_with fail
  refine (dataOf_good o.os _ HS.out rfl HK.out).mono ?_
  rintro e w2 ⟨v, rfl, r2, b2⟩
  obtain ⟨z, t, rfl, y1, y2, y3⟩ := rowb_new r2 (by omega) HB.out
  have Y1 := hid y1
  have Y2 := hid y2
  have Y3 : Hid (∀ p, z = some p → w.heap.size + 2 ≤ p.block) := hid (fun p hp => by have := y3 p hp; simpa using this)
  have L1 := hid (K1.out.below b2)
  have L2 := hid (K2.out.below b2)
  have L3 := hid (grown_on K3.out b2)
  have f0 : w2.frozen? ⟨w.heap.size + 1, 0, none⟩ = false := L2.out.frozen 0
  have f1 : w2.frozen? ⟨w.heap.size + 1, 1, none⟩ = false := L2.out.frozen 1
  have f2 : w2.frozen? ⟨w.heap.size + 1, 2, none⟩ = false := L2.out.frozen 2
  have f3 : w2.frozen? ⟨w.heap.size + 1, 3, none⟩ = false := L2.out.frozen 3
  have f4 : w2.frozen? ⟨w.heap.size + 1, 4, none⟩ = false := L2.out.frozen 4
  have g0 : w2.cell? ⟨w.heap.size + 1, 0, none⟩ = some (.slice none 0 0) := L2.out.cell (i := 0) rfl
  have g1 : w2.cell? ⟨w.heap.size + 1, 1, none⟩ = some (.int .i64 0) := L2.out.cell (i := 1) rfl
  have g2 : w2.cell? ⟨w.heap.size + 1, 2, none⟩ = some (.int .i64 0) := L2.out.cell (i := 2) rfl
  have g3 : w2.cell? ⟨w.heap.size + 1, 3, none⟩ = some (.int .i64 0) := L2.out.cell (i := 3) rfl
  have g4 : w2.cell? ⟨w.heap.size + 1, 4, none⟩ = some (.slice none 0 0) := L2.out.cell (i := 4) rfl
  have j0 : w2.cell? ⟨w.heap.size, 0, none⟩ = some (.int .i64 o.size) := L1.out.cell (i := 0) rfl
  have j1 : w2.cell? ⟨w.heap.size, 1, none⟩ = some (.int .i64 o.code) := L1.out.cell (i := 1) rfl
  have j2 : w2.cell? ⟨w.heap.size, 2, none⟩ = some (.int .i64 o.ver) := L1.out.cell (i := 2) rfl
  have j3 : w2.cell? ⟨w.heap.size, 3, none⟩ = some (.bool o.dO) := L1.out.cell (i := 3) rfl
  have j4 : w2.cell? ⟨w.heap.size, 4, none⟩ = some (.int .i64 o.z) := L1.out.cell (i := 4) rfl
  have j5 : w2.cell? ⟨w.heap.size, 5, none⟩ = some (.slice x o.os.length c) := L1.out.cell (i := 5) rfl
  clear b2 r2 y1 y2 y3 K1 K2 K3 HS
  cases hd : o.dO with
  | true =>
    have TT : Hid (o.code * 16777216 + o.ver * 65536 + o.z + 32768 = ttlN o) := hid (by unfold ttlN; rw [if_pos hd])
    rw [hd] at j3
    go_wp2_with fail
    refine bodyPost_ret (results_recof _ _ (w.heap.size + 1) _ _ _ _ _ rfl (L2.out.put5 _ _ _ _ _)) rfl ?_
    exact ⟨z, t, by rw [← TT.out]; rfl, Y1.out.far5 (fun a e => by have := Y3.out a e; omega) _ _ _ _ _, Y2.out, fun a e => by have := Y3.out a e; omega, below_put5 L3.out (Nat.le_succ _) _ _ _ _ _⟩
  | false =>
    have TT : Hid (o.code * 16777216 + o.ver * 65536 + o.z = ttlN o) := hid (by unfold ttlN; rw [hd]; simp)
    rw [hd] at j3
    go_wp2_with fail
    refine bodyPost_ret (results_recof _ _ (w.heap.size + 1) _ _ _ _ _ rfl (L2.out.put5 _ _ _ _ _)) rfl ?_
    exact ⟨z, t, by rw [← TT.out]; rfl, Y1.out.far5 (fun a e => by have := Y3.out a e; omega) _ _ _ _ _, Y2.out, fun a e => by have := Y3.out a e; omega, below_put5 L3.out (Nat.le_succ _) _ _ _ _ _⟩

end Go.Proofs.YtpmbbaacpnooeaaDoor

namespace Go.Proofs.YtpmbbaacpnooeaaDoor
open Go.RowKit Go.Deep

/-- The options that bytes are, if they are options alone (f: no more steps than that). -/
def optsN : Nat → List Int → Option (List On)
  | _, [] => some []
  | 0, _ :: _ => none
  | f + 1, b :: ms =>
    if (b :: ms).length < 4 then none
    else if (b :: ms).length < 4 + (numN (Nm.cut (b :: ms) 2 2)).toNat then none
    else (optsN f ((b :: ms).drop (4 + (numN (Nm.cut (b :: ms) 2 2)).toNat))).map (fun os => ⟨numN (Nm.cut (b :: ms) 0 2), Nm.cut (b :: ms) 4 (numN (Nm.cut (b :: ms) 2 2)).toNat⟩ :: os)

theorem optsN_step {f : Nat} {ms : List Int} (h : ms ≠ []) : optsN (f + 1) ms = if ms.length < 4 then none else if ms.length < 4 + (numN (Nm.cut ms 2 2)).toNat then none else (optsN f (ms.drop (4 + (numN (Nm.cut ms 2 2)).toNat))).map (fun os => ⟨numN (Nm.cut ms 0 2), Nm.cut ms 4 (numN (Nm.cut ms 2 2)).toNat⟩ :: os) := by
  cases ms with
  | nil => exact absurd rfl h
  | cons b ms => rfl

theorem two_numN {n : Int} (h0 : 0 ≤ n) (h1 : n ≤ 65535) : numN (twoN n) = n := by
  simp [numN, twoN]
  omega

theorem optsN_of (os : List On) (h : optE os = 0) : ∀ f, os.length ≤ f → optsN f (optB os) = some os := by
  induction os with
  | nil => intro f _; cases f <;> rfl
  | cons o os ih =>
    intro f hf
    rw [optE_cons] at h
    by_cases c1 : ¬ (0 ≤ o.code ∧ o.code ≤ 65535)
    · rw [if_pos c1] at h; cases h
    rw [if_neg c1] at h
    by_cases c2 : 65535 < o.D.length
    · rw [if_pos c2] at h; cases h
    rw [if_neg c2] at h
    have c1' : 0 ≤ o.code ∧ o.code ≤ 65535 := Classical.not_not.1 c1
    cases f with
    | zero => simp at hf
    | succ f =>
      have e : optB (o :: os) = o.code / 256 % 256 :: o.code % 256 :: (o.D.length : Int) / 256 % 256 :: (o.D.length : Int) % 256 :: (o.D ++ optB os) := by simp [optB, twoN]
      have k1 : Nm.cut (optB (o :: os)) 2 2 = twoN (o.D.length : Int) := by rw [e]; rfl
      have k2 : Nm.cut (optB (o :: os)) 0 2 = twoN o.code := by rw [e]; rfl
      have k3 : (numN (twoN (o.D.length : Int))).toNat = o.D.length := by rw [two_numN (by omega) (by omega)]; simp
      have k4 : (optB (o :: os)).length = 4 + o.D.length + (optB os).length := by rw [e]; simp; omega
      have k5 : (optB (o :: os)).drop (4 + o.D.length) = optB os := by rw [e, show 4 + o.D.length = o.D.length + 4 by omega]; simp
      have k6 : Nm.cut (optB (o :: os)) 4 o.D.length = o.D := by rw [e]; simp [Nm.cut]
      rw [optsN_step (by rw [e]; simp), k1, k3, k5, k6, k2, two_numN c1'.1 c1'.2, if_neg (by omega), if_neg (by omega), ih h f (by simpa using hf)]
      rfl

end Go.Proofs.YtpmbbaacpnooeaaDoor

namespace Go.Proofs.YtpmbbaacpnooeaaDoor
open Go

/-- It calls nothing, starts nothing, and yields a value. -/
def simpleOp : Op → Bool
  | .move _ | .assign _ | .load _ _ | .binOp _ _ _ _ _ | .unOp _ _ _ | .convert _ _ _ | .fieldAddr _ _ _ | .field _ _ _ | .indexAddr _ _ _ | .index _ _ _ | .extract _ _ | .slice _ _ _ _ _ | .lookup _ _ _ _ | .pick _ _ _ | .nilCheck _ => true
  | _ => false

theorem run_value {s : Sem Value} {P : Program} {w w' : World} {n : Next} (h : (do pure (Next.value (← s)) : Sem Next).run P w = .ok n w') : ∃ u, n = .value u := by
  simp only [Sem.run_bind, Sem.run_pure] at h
  cases hs : s.run P w with
  | ok u w1 => rw [hs] at h; simp only [Result.andThen] at h; cases h; exact ⟨u, rfl⟩
  | halt x w1 => rw [hs] at h; simp only [Result.andThen] at h; cases h

theorem simple_value {ρ : Operand → Value} {o : Oper} {P : Program} {w w' : World} {n : Next} (hs : simpleOp o.op = true) (h : (execOp ρ o).run P w = .ok n w') : ∃ u, n = .value u := by
  unfold execOp at h
  cases ho : o.op <;> rw [ho] at hs <;> simp only [simpleOp, Bool.false_eq_true] at hs <;> rw [ho] at h <;> simp only at h
  case move x => cases h; exact ⟨_, rfl⟩
  case assign x => cases h; exact ⟨_, rfl⟩
  case pick c a b =>
    simp only [Sem.run_bind, Sem.run_pure] at h
    cases hs : (asBool (ρ c)).run P w with
    | ok u w1 => rw [hs] at h; simp only [Result.andThen] at h; cases h; exact ⟨_, rfl⟩
    | halt x w1 => rw [hs] at h; simp only [Result.andThen] at h; cases h
  case nilCheck x =>
    split at h
    case h_4 =>
      split at h
      · cases h
      · simp only [Sem.run_bind] at h
        cases h1 : (Sem.run P program w) with
        | halt x w1 => rw [h1] at h; simp only [Result.andThen] at h; cases h
        | ok v1 w1 =>
          rw [h1] at h; simp only [Result.andThen] at h
          split at h
          · rename_i h2
            split at h
            · cases h
            · cases h; exact ⟨_, rfl⟩
          · cases h
      · cases h; exact ⟨_, rfl⟩
    case h_5 => cases h; exact ⟨_, rfl⟩
    all_goals cases h
  all_goals exact run_value h

section
variable {P : Program} {ops : Array Oper} {Q : Exit → Act → World → Prop} {md : Region.Mode} {S : World → Prop}

/-- What a quiet step of such an operation says. -/
theorem yieldsIf_of_quiet {o : Oper} {a : Act} {v : Value} (hs : simpleOp o.op = true) (hw : Region.wanted o (yielded ops a.tmps) = true) (h : ∀ w, S w → o.quietAt P a S w v) : YieldsIf P ops S o v a := by
  refine .inl ⟨hw, fun w hS => ?_⟩
  have hq := h w hS
  unfold Oper.quietAt at hq
  cases hr : (execOp a.eval o).run P w with
  | ok n w' =>
    rw [hr] at hq
    obtain ⟨u, rfl⟩ := simple_value hs hr
    simp only [Oper.quietUpon] at hq
    obtain ⟨rfl, rfl⟩ := hq
    rfl
  | halt x w' => rw [hr] at hq; simp only [Oper.quietUpon] at hq

/-- Whatever order is picked from here on, and S holds behind each operation numbered below brk. -/
def anyB (P : Program) (md : Region.Mode) (ops : Array Oper) (Q : Exit → Act → World → Prop) (S : World → Prop) (brk : Nat) : Nat → Array Bool → Act → World → Prop
  | 0, listed, a, w => Region.ready md ops listed = [] ∧ Q .normal a w
  | fuel + 1, listed, a, w =>
    (Region.ready md ops listed = [] → Q .normal a w) ∧
    ∀ i ∈ Region.ready md ops listed, wpOp P ops Q i (fun a' w' => (i < brk → S w') ∧ anyB P md ops Q S brk fuel (listed.setIfInBounds i true) a' w') a w

theorem wpAny_of_anyB {brk : Nat} : ∀ (fuel : Nat) (listed : Array Bool) (a : Act) (w : World), anyB P md ops Q S brk fuel listed a w → wpAny P md ops Q fuel listed a w
  | 0, _, _, _, h => h
  | fuel + 1, _, _, _, h => ⟨h.1, fun i hi => wpOp_mono (fun a' w' h' => wpAny_of_anyB fuel _ a' w' h'.2) (h.2 i hi)⟩

theorem anyB_first {brk : Nat} {i : Nat} {oi : Oper} {v : Value} (hi : ops[i]? = some oi) (hsel : ∀ (j : Nat) (o : Oper) cs b, ops[j]? = some o → o.op ≠ .select cs b)
    (hQ : ∀ c a w, Q (.panic c) (a.put oi.dst v) w → Q (.panic c) a w)
    (hib : i < brk) (hbrk : ∀ (j : Nat) (oj : Oper), ops[j]? = some oj → ¬ j < brk → ∃ e ∈ oj.after, Region.binds md e = true ∧ e.on = i) :
    ∀ (fuel : Nat) (listed : Array Bool) (a : Act) (w : World), listed.size = ops.size →
      (∀ j oj, ops[j]? = some oj → j ≠ i → listed.getD j true = false → (∀ e ∈ oj.after, Region.binds md e = true → e.on ≠ i) → oi.apart ops oj = true) →
      i ∈ Region.ready md ops listed → YieldsIf P ops S oi v a → S w →
      anyB P md ops Q S brk fuel (listed.setIfInBounds i true) (a.put oi.dst v) w → anyB P md ops Q S brk (fuel + 1) listed a w := by
  intro fuel
  induction fuel with
  | zero =>
    intro listed a w hls _ hr hy hS H
    refine ⟨fun h => (by rw [h] at hr; cases hr), fun j hj => ?_⟩
    by_cases hji : j = i
    · subst hji; exact hy.wpOp hi hS ⟨fun _ => hS, H⟩
    · have := ready_mono hj hji
      rw [H.1] at this
      cases this
  | succ fuel ih =>
    intro listed a w hls hfree hr hy hS H
    refine ⟨fun h => (by rw [h] at hr; cases hr), fun j hj => ?_⟩
    by_cases hji : j = i
    · subst hji; exact hy.wpOp hi hS ⟨fun _ => hS, H⟩
    · have h1 := H.2 j (ready_mono hj hji)
      obtain ⟨hjun, oj, hoj, hall⟩ := mem_ready.1 hj
      have hiun : listed.getD i false = false := by
        have h0 := (mem_ready.1 hr).1
        rcases Nat.lt_or_ge i listed.size with h' | h'
        · simp [h'] at h0 ⊢; exact h0
        · simp [Array.getD_eq_getD_getElem?, Array.getElem?_eq_none h']
      have hjb : j < brk := by
        rcases Nat.lt_or_ge j brk with q | q
        · exact q
        · obtain ⟨e, he, hb, hon⟩ := hbrk j oj hoj (by omega)
          have := hall e he hb
          rw [hon, hiun] at this
          cases this
      have hnot : ∀ e ∈ oj.after, Region.binds md e = true → e.on ≠ i := fun e he hb heq => by
        have h1 := hall e he hb
        rw [heq, hiun] at h1
        cases h1
      have h2 := wpOp_putIf hoj (hfree j oj hoj hji hjun hnot) (fun cs b => hsel i oi cs b hi) (fun cs b => hsel j oj cs b hoj) hQ hy h1
      have hfree' : ∀ k ok, ops[k]? = some ok → k ≠ i → (listed.setIfInBounds j true).getD k true = false →
          (∀ e ∈ ok.after, Region.binds md e = true → e.on ≠ i) → oi.apart ops ok = true := fun k ok hk hki hun hno => by
        refine hfree k ok hk hki ?_ hno
        by_cases hjk : j = k
        · subst hjk; exact hjun
        · rw [getD_set_ne true hjk] at hun; exact hun
      refine wpOp_mono (fun a' w' h3 => ⟨h3.2.1, ih (listed.setIfInBounds j true) a' w' (by simp [hls]) hfree' (ready_mono hr (Ne.symm hji)) h3.1 (h3.2.1 hjb) ?_⟩) h2
      rw [Array.setIfInBounds_comm _ _ hji]
      exact h3.2.2

/-- The rest in a row. -/
def rowB (P : Program) (Q : Exit → Act → World → Prop) (S : World → Prop) (brk : Nat) : Nat → List Oper → Act → World → Prop
  | _, [], a, w => Q .normal a w
  | k, o :: rest, a, w => o.wp P a w (fun a' w' => (k < brk → S w') ∧ rowB P Q S brk (k + 1) rest a' w') Q

/-- The rest comes one by one. -/
def rowsB (md : Region.Mode) (ops : Array Oper) : Nat → Nat → Array Bool → Bool
  | 0, _, listed => (Region.ready md ops listed).isEmpty
  | n + 1, k, listed => (Region.ready md ops listed == [k]) && (match ops[k]? with | some o => o.guard.isNone | none => false) && rowsB md ops n (k + 1) (listed.setIfInBounds k true)

/-- So many operations may be taken first, each free; those behind them come one by one. -/
def tailB (md : Region.Mode) (ops : Array Oper) : Nat → Nat → Nat → Array Bool → Bool
  | 0, n, k, listed => rowsB md ops n k listed
  | m + 1, n, k, listed => (Region.ready md ops listed).contains k && Region.free md ops listed k && (match ops[k]? with | some o => simpleOp o.op | none => false) && tailB md ops m n (k + 1) (listed.setIfInBounds k true)

theorem anyB_row {brk : Nat} : ∀ (rest : List Oper) (k : Nat) (listed : Array Bool) (a : Act) (w : World), (∀ j, rest[j]? = ops[k + j]?) →
    rowsB md ops rest.length k listed = true → rowB P Q S brk k rest a w → anyB P md ops Q S brk rest.length listed a w
  | [], _, _, _, _, _, hB, h => ⟨by simpa [rowsB] using hB, h⟩
  | o :: rest, k, listed, a, w, hl, hB, h => by
    have h0 : ops[k]? = some o := by simpa using (hl 0).symm
    simp only [List.length_cons, rowsB, Bool.and_eq_true, h0] at hB
    obtain ⟨⟨hr, hg⟩, hB'⟩ := hB
    have hr' : Region.ready md ops listed = [k] := by simpa using hr
    refine ⟨fun q => (by rw [hr'] at q; cases q), fun i hi => ?_⟩
    rw [hr'] at hi
    obtain rfl : i = k := by simpa using hi
    unfold wpOp
    simp only [h0]
    have hwant : Region.wanted o (yielded ops a.tmps) = true := by
      have : o.guard = none := by simpa using hg
      simp [Region.wanted, this]
    simp only [hwant, if_true]
    exact .inl (Oper.wp_mono (fun a' w' hq => ⟨hq.1, anyB_row rest (i + 1) _ a' w' (fun j => by have := hl (j + 1); simpa [Nat.add_assoc, Nat.add_comm 1 j] using this) hB' hq.2⟩) h)

theorem anyB_still {brk : Nat} {K : Act → Prop} (hs : Region.noSelect ops = true) (hQ : ∀ c a a' w, Q (.panic c) a w → Q (.panic c) a' w)
    (rest : List Oper) :
    ∀ (pre : List Oper) (k : Nat) (listed : Array Bool) (a : Act) (w : World), (∀ j, (pre ++ rest)[j]? = ops[k + j]?) → listed.size = ops.size → k + pre.length ≤ brk →
      (∀ i, i < brk → ∀ (j : Nat) (oj : Oper), ops[j]? = some oj → ¬ j < brk → ∃ e ∈ oj.after, Region.binds md e = true ∧ e.on = i) →
      tailB md ops pre.length rest.length k listed = true → S w → wpQuiet P ops S K pre a → (∀ a', K a' → rowB P Q S brk (k + pre.length) rest a' w) →
      anyB P md ops Q S brk (pre ++ rest).length listed a w
  | [], k, listed, a, w, hl, _, _, _, hB, _, h, hK => anyB_row rest k listed a w hl hB (hK a h)
  | o :: pre, k, listed, a, w, hl, hls, hbk, hbrk, hB, hS, h, hK => by
    have h0 : ops[k]? = some o := by simpa using (hl 0).symm
    simp only [List.length_cons, tailB, Bool.and_eq_true, h0] at hB
    obtain ⟨⟨⟨hr, hf⟩, hso⟩, hB'⟩ := hB
    simp only [List.length_cons] at hbk hK
    have hy : ∃ v, YieldsIf P ops S o v a ∧ wpQuiet P ops S K pre (a.put o.dst v) := by
      unfold wpQuiet at h
      by_cases hw : Region.wanted o (yielded ops a.tmps) = true
      · rw [if_pos hw] at h
        obtain ⟨v, hv, hn⟩ := h
        exact ⟨v, yieldsIf_of_quiet hso hw hv, hn⟩
      · rw [if_neg hw] at h
        exact ⟨undef, .inr ⟨by simpa using hw, rfl⟩, h⟩
    obtain ⟨v, hy, hn⟩ := hy
    refine anyB_first h0 (Region.noSelect_spec hs) (fun c a' w' q => hQ c _ _ w' q) (by omega) (hbrk k (by omega)) _ listed a w hls (Region.free_spec h0 hf) (by simpa using hr) hy hS ?_
    exact anyB_still hs hQ rest pre (k + 1) _ _ w (fun j => by have := hl (j + 1); simpa [Nat.add_assoc, Nat.add_comm 1 j] using this) (by simp [hls]) (by omega) hbrk hB' hS hn (fun a' ha => by have := hK a' ha; rwa [show k + (pre.length + 1) = k + 1 + pre.length from by omega] at this)

/-- The last operation alone waits for all others; of the rest so many are taken first. -/
def tailsB (l : List Oper) (m : Nat) : Bool :=
  decide (m < l.length) && Region.noSelect l.toArray && tailB .any l.toArray m (l.length - m) 0 (Array.replicate l.length false) &&
    (match l.getLast? with | some o => (List.range (l.length - 1)).all fun j => o.after.any fun e => Region.binds .any e && e.on == j | none => false)

/-- A run that does not panic. -/
def Calm (Q : Exit → Act → World → Prop) : Exit → Act → World → Prop
  | .panic _, _, _ => False
  | e, a, w => Q e a w

theorem tail_any {l : List Oper} (m : Nat) {a : Act} {w : World} (S : World → Prop) (hB : tailsB l m = true) (hS : S w)
    (h : wpQuiet P l.toArray S (fun a' => rowB P (Calm Q) S (l.length - 1) m (l.drop m) a' w) (l.take m) a) : wpAny P .any l.toArray (Calm Q) l.length (Array.replicate l.length false) a w := by
  unfold tailsB at hB
  simp only [Bool.and_eq_true, decide_eq_true_eq] at hB
  obtain ⟨⟨⟨hm, hs⟩, hT⟩, hL⟩ := hB
  have hlen : (l.take m).length = m := by simp; omega
  have hlen2 : (l.drop m).length = l.length - m := by simp
  have key := anyB_still (P := P) (ops := l.toArray) (Q := Calm Q) (md := .any) (S := S) (brk := l.length - 1) (K := fun a' => rowB P (Calm Q) S (l.length - 1) m (l.drop m) a' w) hs (fun c a a' w q => q.elim) (l.drop m) (l.take m) 0 (Array.replicate l.length false) a w
    (fun j => by simp) (by simp) (by rw [hlen]; omega)
    (fun i hi j oj hj hjb => by
      have hjl : j < l.length := by
        simp only [List.getElem?_toArray] at hj
        exact (List.getElem?_eq_some_iff.1 hj).1
      obtain rfl : j = l.length - 1 := by omega
      have hlast : l.getLast? = some oj := by rw [List.getLast?_eq_getElem?]; simpa using hj
      rw [hlast] at hL
      simp only [List.all_eq_true, List.mem_range] at hL
      have := hL i hi
      rw [Array.any_eq_true'] at this
      obtain ⟨e, he, h5⟩ := this
      simp only [Bool.and_eq_true, beq_iff_eq] at h5
      exact ⟨e, he, h5.1, h5.2⟩)
    (by rw [hlen, hlen2]; exact hT) hS h (fun a' ha => by rw [hlen, Nat.zero_add]; exact ha)
  have := wpAny_of_anyB _ _ _ _ key
  rwa [List.take_append_drop] at this

theorem calm_imp (e : Exit) (a : Act) (w : World) (h : Calm Q e a w) : Q e a w := by cases e <;> first | exact h | exact h.elim

/-- THE LAW. -/
theorem wp_region_tail {l : List Oper} (m : Nat) {id : Nat} {a : Act} {w : World} (S : World → Prop) (hm : P.follows .mixedOrders = true) (hB : tailsB l m = true) (hS : S w.drew)
    (h : wpQuiet P l.toArray S (fun a' => rowB P (Calm Q) S (l.length - 1) m (l.drop m) a' w.drew) (l.take m) a) : (Code.region id l.toArray true).wp P Q a w := by
  refine wp_mono ?_ calm_imp
  refine wp_region_any hm ?_
  have := tail_any (Q := Q) m S hB hS h
  simpa using this

/-! ### within a round -/

/-- It defers nothing, and is no range over a function's mark. -/
def plainB (ops : Array Oper) : Bool := ops.all fun o => match o.op with | .defer _ => false | _ => true

theorem opIn_of_wp {o : Oper} {l n : Nat} {a : Act} {w : World} {K : Act → World → Prop} (hd : ∀ c, o.op ≠ .defer c) (h : o.wp P a w K Q) : o.wpIn (Fence.wide.inRound l) n P a w K Q := by
  refine ⟨fun _ _ => trivial, ?_⟩
  have he : o.semAt (Fence.wide.inRound l).round a.eval = execOp a.eval o := Oper.semAt_eq _ _ _ hd
  rw [he]
  unfold Oper.wp at h
  generalize (execOp a.eval o).run P w = r at *
  cases r with
  | ok x w' =>
    cases x <;> simp only [Oper.upon] at h <;> simp only [Oper.uponIn]
    case value u => exact h
    case skip => exact h
    case defer d => exact h
    case enter f args => exact ⟨fun q => (by cases q), CallsIn.inRound l (callsIn_wide.2 h)⟩
    case row r args =>
      refine ⟨fun q => (by cases q), fun c cs _ => ?_⟩
      obtain ⟨v, w'', hR, hst⟩ := h c cs
      exact ⟨v, w'', hR, stepsIn_wide.2 hst⟩
  | halt x w' =>
    cases x <;> simp only [Oper.upon] at h <;> simp only [Oper.uponIn]
    case panic v => exact h

theorem anyIn_of_any {l n : Nat} (hp : plainB ops = true) (hlo : ¬ LetsOut Q) : ∀ (fuel : Nat) (listed : Array Bool) (a : Act) (w : World), wpAny P md ops Q fuel listed a w → wpAnyIn (Fence.wide.inRound l) n P md ops Q fuel listed a w
  | 0, _, _, _, h => h
  | fuel + 1, listed, a, w, h => ⟨h.1, fun i hi => by
      have h2 := h.2 i hi
      unfold wpOp at h2
      unfold wpOpIn
      cases ho : ops[i]? with
      | none => simp only [ho] at h2 ⊢; exact anyIn_of_any hp hlo fuel _ a w h2
      | some o =>
        simp only [ho] at h2 ⊢
        by_cases hw : Region.wanted o (yielded ops a.tmps) = true
        · simp only [hw, if_true] at h2 ⊢
          rcases h2 with h2 | h2
          · refine opIn_of_wp (fun c q => ?_) (Oper.wp_mono (fun a' w' q => anyIn_of_any hp hlo fuel _ a' w' q) h2)
            unfold plainB at hp
            rw [Array.all_eq_true'] at hp
            have := hp o (Array.mem_of_getElem? ho)
            rw [q] at this
            cases this
          · exact absurd h2.2 hlo
        · simp only [hw] at h2 ⊢
          exact ⟨fun _ _ => trivial, anyIn_of_any hp hlo fuel _ _ w h2⟩⟩

/-- THE LAW WITHIN A ROUND. -/
theorem wpIn_region_tail {l : List Oper} (m : Nat) {id r n : Nat} {a : Act} {w : World} (S : World → Prop) (hm : P.follows .mixedOrders = true) (hB : tailsB l m = true) (hp : plainB l.toArray = true) (hlo : ∀ a w, ¬ Q .outgrown a w) (hS : S w.drew)
    (h : wpQuiet P l.toArray S (fun a' => rowB P (Calm Q) S (l.length - 1) m (l.drop m) a' w.drew) (l.take m) a) : (Code.region id l.toArray true).wpIn (Fence.wide.inRound r) n P Q a w := by
  refine wpIn_mono ?_ calm_imp
  refine wpIn_region_any hm ?_
  have := anyIn_of_any (Q := Calm Q) (l := r) (n := n) hp (fun ⟨a, w, q⟩ => hlo a w q) _ _ _ _ (tail_any (Q := Q) m S hB hS h)
  simpa using this

end

/-! ### the same, whichever operations are picked to be taken first -/

section
variable {P : Program} {ops : Array Oper} {Q : Exit → Act → World → Prop} {md : Region.Mode} {S : World → Prop}

/-- The rest in a row, each with its number. -/
def rowL (P : Program) (Q : Exit → Act → World → Prop) (S : World → Prop) (brk : Nat) : List (Nat × Oper) → Act → World → Prop
  | [], a, w => Q .normal a w
  | x :: rest, a, w => x.2.wp P a w (fun a' w' => (x.1 < brk → S w') ∧ rowL P Q S brk rest a' w') Q

def restL (md : Region.Mode) (ops : Array Oper) : List Nat → Array Bool → Bool
  | [], listed => (Region.ready md ops listed).isEmpty
  | k :: rest, listed => (Region.ready md ops listed == [k]) && (match ops[k]? with | some o => o.guard.isNone | none => false) && restL md ops rest (listed.setIfInBounds k true)

def pickL (md : Region.Mode) (ops : Array Oper) (brk : Nat) (rest : List Nat) : List Nat → Array Bool → Bool
  | [], listed => restL md ops rest listed
  | k :: pre, listed => decide (k < brk) && (Region.ready md ops listed).contains k && Region.free md ops listed k && (match ops[k]? with | some o => simpleOp o.op | none => false) && pickL md ops brk rest pre (listed.setIfInBounds k true)

theorem anyB_restL {brk : Nat} : ∀ (idx : List Nat) (rest : List (Nat × Oper)) (listed : Array Bool) (a : Act) (w : World), idx.map (fun k => ops[k]?.map (fun o => (k, o))) = rest.map some →
    restL md ops idx listed = true → rowL P Q S brk rest a w → anyB P md ops Q S brk rest.length listed a w
  | [], [], _, _, _, _, hB, h => ⟨by simpa [restL] using hB, h⟩
  | [], _ :: _, _, _, _, he, _, _ => by simp at he
  | _ :: _, [], _, _, _, he, _, _ => by simp at he
  | k :: idx, (k', o) :: rest, listed, a, w, he, hB, h => by
    simp only [List.map_cons, List.cons.injEq] at he
    obtain ⟨he1, he2⟩ := he
    cases h0 : ops[k]? with
    | none => rw [h0] at he1; cases he1
    | some o' =>
      rw [h0] at he1
      simp only [Option.map_some, Option.some.injEq, Prod.mk.injEq] at he1
      obtain ⟨rfl, rfl⟩ := he1
      simp only [restL, Bool.and_eq_true, h0] at hB
      obtain ⟨⟨hr, hg⟩, hB'⟩ := hB
      have hr' : Region.ready md ops listed = [k] := by simpa using hr
      refine ⟨fun q => (by rw [hr'] at q; cases q), fun i hi => ?_⟩
      rw [hr'] at hi
      obtain rfl : i = k := by simpa using hi
      unfold wpOp
      simp only [h0]
      have hwant : Region.wanted o' (yielded ops a.tmps) = true := by
        have : o'.guard = none := by simpa using hg
        simp [Region.wanted, this]
      simp only [hwant, if_true]
      exact .inl (Oper.wp_mono (fun a' w' hq => ⟨hq.1, anyB_restL idx rest _ a' w' he2 hB' hq.2⟩) h)

theorem anyB_pickL {brk : Nat} {K : Act → Prop} (hs : Region.noSelect ops = true) (hQ : ∀ c a a' w, Q (.panic c) a w → Q (.panic c) a' w)
    (ridx : List Nat) (rest : List (Nat × Oper)) (hre : ridx.map (fun k => ops[k]?.map (fun o => (k, o))) = rest.map some)
    (hbrk : ∀ i, i < brk → ∀ (j : Nat) (oj : Oper), ops[j]? = some oj → ¬ j < brk → ∃ e ∈ oj.after, Region.binds md e = true ∧ e.on = i) :
    ∀ (idx : List Nat) (pre : List Oper) (listed : Array Bool) (a : Act) (w : World), idx.map (fun k => ops[k]?) = pre.map some → listed.size = ops.size →
      pickL md ops brk ridx idx listed = true → S w → wpQuiet P ops S K pre a → (∀ a', K a' → rowL P Q S brk rest a' w) →
      anyB P md ops Q S brk (pre.length + rest.length) listed a w
  | [], [], listed, a, w, _, _, hB, _, h, hK => by
    rw [List.length_nil, Nat.zero_add]
    exact anyB_restL ridx rest listed a w hre hB (hK a h)
  | [], _ :: _, _, _, _, he, _, _, _, _, _ => by simp at he
  | _ :: _, [], _, _, _, he, _, _, _, _, _ => by simp at he
  | k :: idx, o :: pre, listed, a, w, he, hls, hB, hS, h, hK => by
    simp only [List.map_cons, List.cons.injEq] at he
    obtain ⟨h0, he2⟩ := he
    simp only [pickL, Bool.and_eq_true, h0, decide_eq_true_eq] at hB
    obtain ⟨⟨⟨⟨hkb, hr⟩, hf⟩, hso⟩, hB'⟩ := hB
    have hy : ∃ v, YieldsIf P ops S o v a ∧ wpQuiet P ops S K pre (a.put o.dst v) := by
      unfold wpQuiet at h
      by_cases hw : Region.wanted o (yielded ops a.tmps) = true
      · rw [if_pos hw] at h
        obtain ⟨v, hv, hn⟩ := h
        exact ⟨v, yieldsIf_of_quiet hso hw hv, hn⟩
      · rw [if_neg hw] at h
        exact ⟨undef, .inr ⟨by simpa using hw, rfl⟩, h⟩
    obtain ⟨v, hy, hn⟩ := hy
    rw [List.length_cons, show pre.length + 1 + rest.length = (pre.length + rest.length) + 1 from by omega]
    refine anyB_first h0 (Region.noSelect_spec hs) (fun c a' w' q => hQ c _ _ w' q) hkb (hbrk k hkb) _ listed a w hls (Region.free_spec h0 hf) (by simpa using hr) hy hS ?_
    exact anyB_pickL hs hQ ridx rest hre hbrk idx pre _ _ w he2 (by simp [hls]) hB' hS hn hK

/-- The last operation alone waits for all others; these are taken first, those come in a row. -/
def picksB (l : List Oper) (idx ridx : List Nat) : Bool :=
  Region.noSelect l.toArray && pickL .any l.toArray (l.length - 1) ridx idx (Array.replicate l.length false) && decide (idx.length + ridx.length = l.length) &&
    (match l.getLast? with | some o => (List.range (l.length - 1)).all fun j => o.after.any fun e => Region.binds .any e && e.on == j | none => false)

theorem pick_any {l : List Oper} (idx ridx : List Nat) {pre : List Oper} {rest : List (Nat × Oper)} {a : Act} {w : World} (S : World → Prop) (hpre : idx.map (fun k => l.toArray[k]?) = pre.map some) (hre : ridx.map (fun k => l.toArray[k]?.map (fun o => (k, o))) = rest.map some)
    (hB : picksB l idx ridx = true) (hS : S w)
    (h : wpQuiet P l.toArray S (fun a' => rowL P (Calm Q) S (l.length - 1) rest a' w) pre a) : wpAny P .any l.toArray (Calm Q) l.length (Array.replicate l.length false) a w := by
  unfold picksB at hB
  simp only [Bool.and_eq_true, decide_eq_true_eq] at hB
  obtain ⟨⟨⟨hs, hT⟩, hlen⟩, hL⟩ := hB
  have e1 : pre.length = idx.length := by have := congrArg List.length hpre; simpa using this.symm
  have e2 : rest.length = ridx.length := by have := congrArg List.length hre; simpa using this.symm
  have key := anyB_pickL (P := P) (ops := l.toArray) (Q := Calm Q) (md := .any) (S := S) (brk := l.length - 1) (K := fun a' => rowL P (Calm Q) S (l.length - 1) rest a' w) hs (fun c a a' w q => q.elim) ridx rest hre
    (fun i hi j oj hj hjb => by
      have hjl : j < l.length := by
        simp only [List.getElem?_toArray] at hj
        exact (List.getElem?_eq_some_iff.1 hj).1
      obtain rfl : j = l.length - 1 := by omega
      have hlast : l.getLast? = some oj := by rw [List.getLast?_eq_getElem?]; simpa using hj
      rw [hlast] at hL
      simp only [List.all_eq_true, List.mem_range] at hL
      have := hL i hi
      rw [Array.any_eq_true'] at this
      obtain ⟨e, he, h5⟩ := this
      simp only [Bool.and_eq_true, beq_iff_eq] at h5
      exact ⟨e, he, h5.1, h5.2⟩)
    idx pre (Array.replicate l.length false) a w hpre (by simp) hT hS h (fun a' ha => ha)
  have := wpAny_of_anyB _ _ _ _ key
  rwa [e1, e2, hlen] at this

theorem pre_some {l : List Oper} : ∀ {idx : List Nat}, idx.all (fun k => decide (k < l.length)) = true → idx.map (fun k => l.toArray[k]?) = (idx.filterMap (fun k => l[k]?)).map some
  | [], _ => rfl
  | k :: idx, h => by
    simp only [List.all_cons, Bool.and_eq_true, decide_eq_true_eq] at h
    rw [List.map_cons, pre_some h.2, List.filterMap_cons, List.getElem?_toArray, List.getElem?_eq_getElem h.1]
    rfl
theorem rest_some {l : List Oper} : ∀ {idx : List Nat}, idx.all (fun k => decide (k < l.length)) = true → idx.map (fun k => l.toArray[k]?.map (fun o => (k, o))) = (idx.filterMap (fun k => l[k]?.map (fun o => (k, o)))).map some
  | [], _ => rfl
  | k :: idx, h => by
    simp only [List.all_cons, Bool.and_eq_true, decide_eq_true_eq] at h
    rw [List.map_cons, rest_some h.2, List.filterMap_cons, List.getElem?_toArray, List.getElem?_eq_getElem h.1]
    rfl

/-- THE LAW. -/
theorem wp_region_pick {l : List Oper} (idx ridx : List Nat) {id : Nat} {a : Act} {w : World} (S : World → Prop) (hm : P.follows .mixedOrders = true) (hi : (idx ++ ridx).all (fun k => decide (k < l.length)) = true)
    (hB : picksB l idx ridx = true) (hS : S w.drew)
    (h : wpQuiet P l.toArray S (fun a' => rowL P (Calm Q) S (l.length - 1) (ridx.filterMap (fun k => l[k]?.map (fun o => (k, o)))) a' w.drew) (idx.filterMap (fun k => l[k]?)) a) : (Code.region id l.toArray true).wp P Q a w := by
  refine wp_mono ?_ calm_imp
  refine wp_region_any hm ?_
  rw [List.all_append, Bool.and_eq_true] at hi
  have := pick_any (Q := Q) idx ridx S (pre_some hi.1) (rest_some hi.2) hB hS h
  simpa using this

/-- THE LAW WITHIN A ROUND. -/
theorem wpIn_region_pick {l : List Oper} (idx ridx : List Nat) {id r n : Nat} {a : Act} {w : World} (S : World → Prop) (hm : P.follows .mixedOrders = true) (hi : (idx ++ ridx).all (fun k => decide (k < l.length)) = true)
    (hB : picksB l idx ridx = true) (hp : plainB l.toArray = true) (hlo : ∀ a w, ¬ Q .outgrown a w) (hS : S w.drew)
    (h : wpQuiet P l.toArray S (fun a' => rowL P (Calm Q) S (l.length - 1) (ridx.filterMap (fun k => l[k]?.map (fun o => (k, o)))) a' w.drew) (idx.filterMap (fun k => l[k]?)) a) : (Code.region id l.toArray true).wpIn (Fence.wide.inRound r) n P Q a w := by
  refine wpIn_mono ?_ calm_imp
  refine wpIn_region_any hm ?_
  rw [List.all_append, Bool.and_eq_true] at hi
  have := anyIn_of_any (Q := Calm Q) (l := r) (n := n) hp (fun ⟨a, w, q⟩ => hlo a w q) _ _ _ _ (pick_any (Q := Q) idx ridx S (pre_some hi.1) (rest_some hi.2) hB hS h)
  simpa using this

theorem rowL_step {brk k : Nat} {o : Oper} {rest : List (Nat × Oper)} {a : Act} {w : World}
    (h : ∀ (K : Act → World → Prop) (Q' : Exit → Act → World → Prop), (∀ a' w', (k < brk → S w') → rowL P Q S brk rest a' w' → K a' w') → o.wp P a w K Q') : rowL P Q S brk ((k, o) :: rest) a w :=
  h _ _ fun _ _ h1 h2 => ⟨h1, h2⟩
theorem rowL_nil {brk : Nat} {a : Act} {w : World} (h : Q .normal a w) : rowL P (Calm Q) S brk [] a w := h

end

theorem rowB_step {P : Program} {Q : Exit → Act → World → Prop} {S : World → Prop} {brk k : Nat} {o : Oper} {rest : List Oper} {a : Act} {w : World}
    (h : ∀ (K : Act → World → Prop) (Q' : Exit → Act → World → Prop), (∀ a' w', (k < brk → S w') → rowB P Q S brk (k + 1) rest a' w' → K a' w') → o.wp P a w K Q') : rowB P Q S brk k (o :: rest) a w :=
  h _ _ fun _ _ h1 h2 => ⟨h1, h2⟩

theorem rowB_nil {P : Program} {Q : Exit → Act → World → Prop} {S : World → Prop} {brk k : Nat} {a : Act} {w : World} (h : Q .normal a w) : rowB P (Calm Q) S brk k [] a w := h

/-- A world in which these cells hold these values. -/
structure Keep (L : List (Addr × Value)) where
  val : World
  cells : ∀ e ∈ L, val.cell? e.1 = some e.2

theorem Keep.some {L : List (Addr × Value)} (w : World) (h : ∀ e ∈ L, w.cell? e.1 = some e.2) : Nonempty (Keep L) := ⟨⟨w, h⟩⟩

end Go.Proofs.YtpmbbaacpnooeaaDoor

namespace Go.Proofs.YtpmbbaacpnooeaaDoor
open Go.RowKit Go.Deep

theorem pair_le {ms : List Int} (hb : ∀ b ∈ ms, 0 ≤ b ∧ b ≤ 255) (i : Nat) : pairN ms i ≤ 65535 := by
  have g0 := getD_byte hb i
  have g1 := getD_byte hb (i + 1)
  unfold pairN
  omega

theorem msgR_ok {ms : List Int} (hb : ∀ b ∈ ms, 0 ≤ b ∧ b ≤ 255) {qs : List Qn} {r1 r2 r3 : List Rn} (h : msgR ms = (0, qs, r1, r2, r3)) :
    12 ≤ ms.length ∧ ∃ a0 a1 a2, partsN (readQ ms) (pairN ms 4) 12 = (0, qs, a0) ∧ partsN (readR ms) (pairN ms 6) a0 = (0, r1, a1) ∧ partsN (readR ms) (pairN ms 8) a1 = (0, r2, a2) ∧ partsN (readR ms) (pairN ms 10) a2 = (0, r3, ms.length) ∧ a0 ≤ ms.length ∧ a1 ≤ ms.length ∧ a2 ≤ ms.length := by
  unfold msgR at h
  by_cases c0 : ms.length < 12
  · rw [if_pos c0] at h; simp at h
  rw [if_neg c0] at h
  obtain ⟨⟨k0, q, a0⟩, e0⟩ : ∃ s, partsN (readQ ms) (pairN ms 4) 12 = s := ⟨_, rfl⟩
  rw [e0] at h
  simp only at h
  by_cases z0 : k0 = 0
  case neg => rw [if_pos z0] at h; simp only [Prod.mk.injEq] at h; exact absurd h.1 z0
  rw [if_neg (by simp [z0])] at h
  obtain ⟨⟨k1, s1, a1⟩, e1⟩ : ∃ s, partsN (readR ms) (pairN ms 6) a0 = s := ⟨_, rfl⟩
  rw [e1] at h
  simp only at h
  by_cases z1 : k1 = 0
  case neg => rw [if_pos z1] at h; simp only [Prod.mk.injEq] at h; exact absurd h.1 z1
  rw [if_neg (by simp [z1])] at h
  obtain ⟨⟨k2, s2, a2⟩, e2⟩ : ∃ s, partsN (readR ms) (pairN ms 8) a1 = s := ⟨_, rfl⟩
  rw [e2] at h
  simp only at h
  by_cases z2 : k2 = 0
  case neg => rw [if_pos z2] at h; simp only [Prod.mk.injEq] at h; exact absurd h.1 z2
  rw [if_neg (by simp [z2])] at h
  obtain ⟨⟨k3, s3, a3⟩, e3⟩ : ∃ s, partsN (readR ms) (pairN ms 10) a2 = s := ⟨_, rfl⟩
  rw [e3] at h
  simp only at h
  by_cases z3 : k3 = 0
  case neg => rw [if_pos z3] at h; simp only [Prod.mk.injEq] at h; exact absurd h.1 z3
  rw [if_neg (by simp [z3])] at h
  by_cases c1 : a3 < ms.length
  · rw [if_pos c1] at h; simp at h
  rw [if_neg c1] at h
  simp only [Prod.mk.injEq, true_and] at h
  obtain ⟨rfl, rfl, rfl, rfl⟩ := h
  subst z0 z1 z2 z3
  have f0 := parts_end (readQ_step hb) (parts_ok e0).2 (by omega)
  have f1 := parts_end (readR_step hb) (parts_ok e1).2 f0.2
  have f2 := parts_end (readR_step hb) (parts_ok e2).2 f1.2
  have f3 := parts_end (readR_step hb) (parts_ok e3).2 f2.2
  have e : a3 = ms.length := by omega
  rw [e] at e3
  exact ⟨by omega, a0, a1, a2, e0, e1, e2, e3, f0.2, f1.2, f2.2⟩

def MsgAt (h : Hd) (qs : List Qn) (r1 r2 r3 : List Rn) (w : World) (e : Ending) (w' : World) : Prop :=
  ∃ xq cq x1 c1 x2 c2 x3 c3, e = .returned (.tuple #[.agg #[.int .i64 h.id, .bool h.an, .int .i64 h.op, .bool h.aa, .bool h.tc, .bool h.rd, .bool h.ra, .bool h.z, .bool h.ad, .bool h.cd, .int .i64 h.code, .slice xq qs.length cq, .slice x1 r1.length c1, .slice x2 r2.length c2, .slice x3 r3.length c3], .nilIface]) ∧
    Qs w' w.heap.size xq cq qs ∧ Rs w' w.heap.size x1 c1 r1 ∧ Rs w' w.heap.size x2 c2 r2 ∧ Rs w' w.heap.size x3 c3 r3 ∧ Below w.heap.size w w'

/-- Behind some sections: the message in block M, the result's block, the sections. -/
def MSt (h : Hd) (w : World) (M : Nat) (qs : List Qn) (s1 s2 s3 : Option (List Rn)) (wr : World) : Prop :=
  ∃ xq cq v1 v2 v3, Bl 28 wr M #[.int .i64 h.id, .bool h.an, .int .i64 h.op, .bool h.aa, .bool h.tc, .bool h.rd, .bool h.ra, .bool h.z, .bool h.ad, .bool h.cd, .int .i64 h.code, .slice xq qs.length cq, v1, v2, v3] ∧ Qs wr (M + 1) xq cq qs ∧
    (∀ r, s1 = some r → ∃ x c, v1 = .slice x r.length c ∧ Rs wr (M + 1) x c r) ∧ (∀ r, s2 = some r → ∃ x c, v2 = .slice x r.length c ∧ Rs wr (M + 1) x c r) ∧ (∀ r, s3 = some r → ∃ x c, v3 = .slice x r.length c ∧ Rs wr (M + 1) x c r) ∧
    Bl 28 wr w.heap.size ms0 ∧ w.heap.size < M ∧ Below w.heap.size w wr

theorem MSt.below {h : Hd} {w : World} {M : Nat} {qs : List Qn} {s1 s2 s3 : Option (List Rn)} {wr w' : World} (k : MSt h w M qs s1 s2 s3 wr) (b : Below wr.heap.size wr w') : MSt h w M qs s1 s2 s3 w' := by
  obtain ⟨xq, cq, v1, v2, v3, k1, k2, k3, k4, k5, k6, k7, k8⟩ := k
  refine ⟨xq, cq, v1, v2, v3, k1.below b, k2.below b, ?_, ?_, ?_, k6.below b, k7, grown_on k8 b⟩
  · intro r e; obtain ⟨x, c, e1, e2⟩ := k3 r e; exact ⟨x, c, e1, e2.below b⟩
  · intro r e; obtain ⟨x, c, e1, e2⟩ := k4 r e; exact ⟨x, c, e1, e2.below b⟩
  · intro r e; obtain ⟨x, c, e1, e2⟩ := k5 r e; exact ⟨x, c, e1, e2.below b⟩

theorem sec_far {w : World} {M : Nat} {v : Value} {s : Option (List Rn)} (h : ∀ r, s = some r → ∃ x c, v = .slice x r.length c ∧ Rs w (M + 1) x c r) (i : Nat) (u : Value) : ∀ r, s = some r → ∃ x c, v = .slice x r.length c ∧ Rs (w.setCell ⟨M, i, none⟩ u) (M + 1) x c r := by
  intro r e
  obtain ⟨x, c, e1, e2⟩ := h r e
  exact ⟨x, c, e1, e2.far (Nat.lt_succ_self _) u⟩

theorem MSt.put1 {h : Hd} {w : World} {M : Nat} {qs : List Qn} {s2 s3 : Option (List Rn)} {s1 : Option (List Rn)} {wr : World} (k : MSt h w M qs s1 s2 s3 wr) {x : Option Addr} {c : Nat} {r : List Rn} (hr : Rs wr (M + 1) x c r) : MSt h w M qs (some r) s2 s3 (wr.setCell ⟨M, 12, none⟩ (.slice x r.length c)) := by
  obtain ⟨xq, cq, v1, v2, v3, k1, k2, k3, k4, k5, k6, k7, k8⟩ := k
  exact ⟨xq, cq, _, v2, v3, k1.set 12 _, k2.far (Nat.lt_succ_self _) _, fun r' e => ⟨x, c, by cases e; rfl, by cases e; exact hr.far (Nat.lt_succ_self _) _⟩, sec_far k4 _ _, sec_far k5 _ _, k6.far (by simp; omega) _, k7, k8.setCell (Nat.le_of_lt k7) _⟩

theorem MSt.put2 {h : Hd} {w : World} {M : Nat} {qs : List Qn} {s1 s2 s3 : Option (List Rn)} {wr : World} (k : MSt h w M qs s1 s2 s3 wr) {x : Option Addr} {c : Nat} {r : List Rn} (hr : Rs wr (M + 1) x c r) : MSt h w M qs s1 (some r) s3 (wr.setCell ⟨M, 13, none⟩ (.slice x r.length c)) := by
  obtain ⟨xq, cq, v1, v2, v3, k1, k2, k3, k4, k5, k6, k7, k8⟩ := k
  exact ⟨xq, cq, v1, _, v3, k1.set 13 _, k2.far (Nat.lt_succ_self _) _, sec_far k3 _ _, fun r' e => ⟨x, c, by cases e; rfl, by cases e; exact hr.far (Nat.lt_succ_self _) _⟩, sec_far k5 _ _, k6.far (by simp; omega) _, k7, k8.setCell (Nat.le_of_lt k7) _⟩

theorem MSt.put3 {h : Hd} {w : World} {M : Nat} {qs : List Qn} {s1 s2 s3 : Option (List Rn)} {wr : World} (k : MSt h w M qs s1 s2 s3 wr) {x : Option Addr} {c : Nat} {r : List Rn} (hr : Rs wr (M + 1) x c r) : MSt h w M qs s1 s2 (some r) (wr.setCell ⟨M, 14, none⟩ (.slice x r.length c)) := by
  obtain ⟨xq, cq, v1, v2, v3, k1, k2, k3, k4, k5, k6, k7, k8⟩ := k
  exact ⟨xq, cq, v1, v2, _, k1.set 14 _, k2.far (Nat.lt_succ_self _) _, sec_far k3 _ _, sec_far k4 _ _, fun r' e => ⟨x, c, by cases e; rfl, by cases e; exact hr.far (Nat.lt_succ_self _) _⟩, k6.far (by simp; omega) _, k7, k8.setCell (Nat.le_of_lt k7) _⟩

theorem MSt.cell {h : Hd} {w : World} {M : Nat} {qs : List Qn} {s1 s2 s3 : Option (List Rn)} {wr : World} (k : MSt h w M qs s1 s2 s3 wr) : (∃ v, wr.cell? ⟨M, 12, none⟩ = some v) ∧ (∃ v, wr.cell? ⟨M, 13, none⟩ = some v) ∧ (∃ v, wr.cell? ⟨M, 14, none⟩ = some v) ∧ wr.frozen? ⟨M, 12, none⟩ = false ∧ wr.frozen? ⟨M, 13, none⟩ = false ∧ wr.frozen? ⟨M, 14, none⟩ = false ∧ M < wr.heap.size := by
  obtain ⟨xq, cq, v1, v2, v3, k1, _⟩ := k
  exact ⟨⟨v1, k1.cell (i := 12) rfl⟩, ⟨v2, k1.cell (i := 13) rfl⟩, ⟨v3, k1.cell (i := 14) rfl⟩, k1.frozen _, k1.frozen _, k1.frozen _, k1.lt⟩

theorem MSt.bel {h : Hd} {w : World} {M : Nat} {qs : List Qn} {s1 s2 s3 : Option (List Rn)} {wr : World} (k : MSt h w M qs s1 s2 s3 wr) : Below w.heap.size w wr := by
  obtain ⟨_, _, _, _, _, _, _, _, _, _, _, _, k8⟩ := k
  exact k8

theorem MSt.res {h : Hd} {w : World} {M : Nat} {qs : List Qn} {s1 s2 s3 : Option (List Rn)} {wr : World} (k : MSt h w M qs s1 s2 s3 wr) : Bl 28 wr w.heap.size ms0 := by
  obtain ⟨_, _, _, _, _, _, _, _, _, _, k6, _, _⟩ := k
  exact k6

theorem far15q {w : World} {B : Nat} {x : Option Addr} {c : Nat} {qs : List Qn} (h : Qs w B x c qs) {b : Nat} (hb : b < B) (v0 v1 v2 v3 v4 v5 v6 v7 v8 v9 v10 v11 v12 v13 v14 : Value) : Qs (((((((((((((((w.setCell ⟨b, 0, none⟩ v0).setCell ⟨b, 1, none⟩ v1).setCell ⟨b, 2, none⟩ v2).setCell ⟨b, 3, none⟩ v3).setCell ⟨b, 4, none⟩ v4).setCell ⟨b, 5, none⟩ v5).setCell ⟨b, 6, none⟩ v6).setCell ⟨b, 7, none⟩ v7).setCell ⟨b, 8, none⟩ v8).setCell ⟨b, 9, none⟩ v9).setCell ⟨b, 10, none⟩ v10).setCell ⟨b, 11, none⟩ v11).setCell ⟨b, 12, none⟩ v12).setCell ⟨b, 13, none⟩ v13).setCell ⟨b, 14, none⟩ v14) B x c qs :=
  (((((((((((((((h.far (p := ⟨b, 0, none⟩) hb v0).far (p := ⟨b, 1, none⟩) hb v1).far (p := ⟨b, 2, none⟩) hb v2).far (p := ⟨b, 3, none⟩) hb v3).far (p := ⟨b, 4, none⟩) hb v4).far (p := ⟨b, 5, none⟩) hb v5).far (p := ⟨b, 6, none⟩) hb v6).far (p := ⟨b, 7, none⟩) hb v7).far (p := ⟨b, 8, none⟩) hb v8).far (p := ⟨b, 9, none⟩) hb v9).far (p := ⟨b, 10, none⟩) hb v10).far (p := ⟨b, 11, none⟩) hb v11).far (p := ⟨b, 12, none⟩) hb v12).far (p := ⟨b, 13, none⟩) hb v13).far (p := ⟨b, 14, none⟩) hb v14)

theorem far15r {w : World} {B : Nat} {x : Option Addr} {c : Nat} {rs : List Rn} (h : Rs w B x c rs) {b : Nat} (hb : b < B) (v0 v1 v2 v3 v4 v5 v6 v7 v8 v9 v10 v11 v12 v13 v14 : Value) : Rs (((((((((((((((w.setCell ⟨b, 0, none⟩ v0).setCell ⟨b, 1, none⟩ v1).setCell ⟨b, 2, none⟩ v2).setCell ⟨b, 3, none⟩ v3).setCell ⟨b, 4, none⟩ v4).setCell ⟨b, 5, none⟩ v5).setCell ⟨b, 6, none⟩ v6).setCell ⟨b, 7, none⟩ v7).setCell ⟨b, 8, none⟩ v8).setCell ⟨b, 9, none⟩ v9).setCell ⟨b, 10, none⟩ v10).setCell ⟨b, 11, none⟩ v11).setCell ⟨b, 12, none⟩ v12).setCell ⟨b, 13, none⟩ v13).setCell ⟨b, 14, none⟩ v14) B x c rs :=
  (((((((((((((((h.far (p := ⟨b, 0, none⟩) hb v0).far (p := ⟨b, 1, none⟩) hb v1).far (p := ⟨b, 2, none⟩) hb v2).far (p := ⟨b, 3, none⟩) hb v3).far (p := ⟨b, 4, none⟩) hb v4).far (p := ⟨b, 5, none⟩) hb v5).far (p := ⟨b, 6, none⟩) hb v6).far (p := ⟨b, 7, none⟩) hb v7).far (p := ⟨b, 8, none⟩) hb v8).far (p := ⟨b, 9, none⟩) hb v9).far (p := ⟨b, 10, none⟩) hb v10).far (p := ⟨b, 11, none⟩) hb v11).far (p := ⟨b, 12, none⟩) hb v12).far (p := ⟨b, 13, none⟩) hb v13).far (p := ⟨b, 14, none⟩) hb v14)

theorem msgR_q {ms : List Int} {k : Int} {qs : List Qn} {a0 : Nat} (h12 : 12 ≤ ms.length) (e0 : partsN (readQ ms) (pairN ms 4) 12 = (k, qs, a0)) (hk : ¬ k = 0) : msgR ms = (k, [], [], [], []) := by
  unfold msgR
  rw [if_neg (by omega), e0]
  simp only
  rw [if_pos hk]

theorem msgR_1 {ms : List Int} {k : Int} {qs : List Qn} {r1 : List Rn} {a0 a1 : Nat} (h12 : 12 ≤ ms.length) (e0 : partsN (readQ ms) (pairN ms 4) 12 = (0, qs, a0)) (e1 : partsN (readR ms) (pairN ms 6) a0 = (k, r1, a1)) (hk : ¬ k = 0) : msgR ms = (k, [], [], [], []) := by
  unfold msgR
  rw [if_neg (by omega), e0]
  simp only
  rw [if_neg (by simp), e1]
  simp only
  rw [if_pos hk]

theorem msgR_2 {ms : List Int} {k : Int} {qs : List Qn} {r1 r2 : List Rn} {a0 a1 a2 : Nat} (h12 : 12 ≤ ms.length) (e0 : partsN (readQ ms) (pairN ms 4) 12 = (0, qs, a0)) (e1 : partsN (readR ms) (pairN ms 6) a0 = (0, r1, a1)) (e2 : partsN (readR ms) (pairN ms 8) a1 = (k, r2, a2)) (hk : ¬ k = 0) : msgR ms = (k, [], [], [], []) := by
  unfold msgR
  rw [if_neg (by omega), e0]
  simp only
  rw [if_neg (by simp), e1]
  simp only
  rw [if_neg (by simp), e2]
  simp only
  rw [if_pos hk]

theorem msgR_3 {ms : List Int} {k : Int} {qs : List Qn} {r1 r2 r3 : List Rn} {a0 a1 a2 a3 : Nat} (h12 : 12 ≤ ms.length) (e0 : partsN (readQ ms) (pairN ms 4) 12 = (0, qs, a0)) (e1 : partsN (readR ms) (pairN ms 6) a0 = (0, r1, a1)) (e2 : partsN (readR ms) (pairN ms 8) a1 = (0, r2, a2)) (e3 : partsN (readR ms) (pairN ms 10) a2 = (k, r3, a3)) (hk : ¬ k = 0) : msgR ms = (k, [], [], [], []) := by
  unfold msgR
  rw [if_neg (by omega), e0]
  simp only
  rw [if_neg (by simp), e1]
  simp only
  rw [if_neg (by simp), e2]
  simp only
  rw [if_neg (by simp), e3]
  simp only
  rw [if_pos hk]

theorem msgR_4 {ms : List Int} {qs : List Qn} {r1 r2 r3 : List Rn} {a0 a1 a2 a3 : Nat} (h12 : 12 ≤ ms.length) (e0 : partsN (readQ ms) (pairN ms 4) 12 = (0, qs, a0)) (e1 : partsN (readR ms) (pairN ms 6) a0 = (0, r1, a1)) (e2 : partsN (readR ms) (pairN ms 8) a1 = (0, r2, a2)) (e3 : partsN (readR ms) (pairN ms 10) a2 = (0, r3, a3)) : msgR ms = if a3 < ms.length then (8, [], [], [], []) else (0, qs, r1, r2, r3) := by
  unfold msgR
  rw [if_neg (by omega), e0]
  simp only
  rw [if_neg (by simp), e1]
  simp only
  rw [if_neg (by simp), e2]
  simp only
  rw [if_neg (by simp), e3]
  simp only
  rw [if_neg (by simp)]

theorem msgR_short {ms : List Int} (h : ms.length < 12) : msgR ms = (2, [], [], [], []) := by
  unfold msgR
  rw [if_pos h]

/-- What msg.Read hands back: the message, or what is wrong and a message without anything. -/
def MsgPost (ms : List Int) (w : World) (e : Ending) (w' : World) : Prop :=
  (∃ qs r1 r2 r3, msgR ms = (0, qs, r1, r2, r3) ∧ MsgAt (hdR ms) qs r1 r2 r3 w e w') ∨
    (∃ k, ¬ k = 0 ∧ msgR ms = (k, [], [], [], []) ∧ e = .returned (.tuple #[.agg #[.int .i64 0, .bool false, .int .i64 0, .bool false, .bool false, .bool false, .bool false, .bool false, .bool false, .bool false, .int .i64 0, .slice none 0 0, .slice none 0 0, .slice none 0 0, .slice none 0 0], .iface 29 (.int .i64 k)]) ∧ Below w.heap.size w w')

/-- The rounds of the loop over the sections. -/
def MRel (h : Hd) (w : World) (M : Nat) (qs : List Qn) (r1 r2 r3 : List Rn) (k1 k2 k3 : Int) (a0 a1 a2 a3 : Nat) (va vi : Value) (wr : World) : Prop :=
  (va = .int .i64 (a0 : Int) ∧ vi = .int .i64 0 ∧ MSt h w M qs none none none wr) ∨ (k1 = 0 ∧ va = .int .i64 (a1 : Int) ∧ vi = .int .i64 1 ∧ MSt h w M qs (some r1) none none wr) ∨
    (k1 = 0 ∧ k2 = 0 ∧ va = .int .i64 (a2 : Int) ∧ vi = .int .i64 2 ∧ MSt h w M qs (some r1) (some r2) none wr) ∨ (k1 = 0 ∧ k2 = 0 ∧ k3 = 0 ∧ va = .int .i64 (a3 : Int) ∧ vi = .int .i64 3 ∧ MSt h w M qs (some r1) (some r2) (some r3) wr)

set_option maxHeartbeats 1000000 in
set_option maxRecDepth 100000 in
theorem mread_short {x : Option Addr} {c l : Nat} (ms : List Int) (w : World) (hl : ms.length = l) (h12 : ms.length < 12) :
    Calls Tryd.prog 7 #[.slice x l c] w (MsgPost ms w) := by
  subst hl
  have i1 : (ms.length : Int) < 12 := by omega
  have K0 := Bl.new 28 w ms0
  have B0 : Below w.heap.size w (w.alloc (.cells ms0 28)) := (Below.refl _ w).alloc (Nat.le_refl _) _
  go_enter Tryd.func7, Tryd.ntmps7
  go_wp2_with fail
  refine bodyPost_ret (results_mread _ _ w.heap.size _ _ _ _ _ _ _ _ _ _ _ _ _ _ _ rfl K0) rfl ?_
  exact Or.inr ⟨2, by decide, msgR_short h12, rfl, B0⟩

set_option maxHeartbeats 4000000 in
set_option maxRecDepth 100000 in
theorem mread_any {x : Option Addr} {c l : Nat} (ms : List Int) (w : World) (hs : Bys w x c ms) (hl : ms.length = l) :
    Calls Tryd.prog 7 #[.slice x l c] w (MsgPost ms w) := by
  by_cases h12 : ms.length < 12
  · exact mread_short ms w hl h12
  subst hl
  have h12' : 12 ≤ ms.length := by omega
  have hlen : ms.length ≤ 200000000000000 := hs.2.1
  have hbs := hs.2.2.1
  obtain ⟨⟨k0, qs, a0⟩, e0⟩ : ∃ s, partsN (readQ ms) (pairN ms 4) 12 = s := ⟨_, rfl⟩
  obtain ⟨⟨k1, r1, a1⟩, e1⟩ : ∃ s, partsN (readR ms) (pairN ms 6) a0 = s := ⟨_, rfl⟩
  obtain ⟨⟨k2, r2, a2⟩, e2⟩ : ∃ s, partsN (readR ms) (pairN ms 8) a1 = s := ⟨_, rfl⟩
  obtain ⟨⟨k3, r3, a3⟩, e3⟩ : ∃ s, partsN (readR ms) (pairN ms 10) a2 = s := ⟨_, rfl⟩
  obtain ⟨h, hh⟩ : ∃ h, hdR ms = h := ⟨_, rfl⟩
  have p0 := pair_le hbs 4
  have p1 := pair_le hbs 6
  have p2 := pair_le hbs 8
  have p3 := pair_le hbs 10
  have E0 := hid e0
  have E1 := hid e1
  have E2 := hid e2
  have E3 := hid e3
  have HH := hid hh
  have F0 : Hid (k0 = 0 → a0 ≤ ms.length) := hid (fun z => by subst z; exact (parts_end (readQ_step hbs) (parts_ok e0).2 h12').2)
  have F1 : Hid (k0 = 0 → k1 = 0 → a1 ≤ ms.length) := hid (fun z0 z1 => by subst z1; exact (parts_end (readR_step hbs) (parts_ok e1).2 (F0.out z0)).2)
  have F2 : Hid (k0 = 0 → k1 = 0 → k2 = 0 → a2 ≤ ms.length) := hid (fun z0 z1 z2 => by subst z2; exact (parts_end (readR_step hbs) (parts_ok e2).2 (F1.out z0 z1)).2)
  have F3 : Hid (k0 = 0 → k1 = 0 → k2 = 0 → k3 = 0 → a3 ≤ ms.length) := hid (fun z0 z1 z2 z3 => by subst z3; exact (parts_end (readR_step hbs) (parts_ok e3).2 (F2.out z0 z1 z2)).2)
  clear e0 e1 e2 e3 hh
  obtain ⟨n0, N0⟩ : ∃ n0, Hid (pairN ms 4 = n0) := ⟨_, hid rfl⟩
  obtain ⟨n1, N1⟩ : ∃ n1, Hid (pairN ms 6 = n1) := ⟨_, hid rfl⟩
  obtain ⟨n2, N2⟩ : ∃ n2, Hid (pairN ms 8 = n2) := ⟨_, hid rfl⟩
  obtain ⟨n3, N3⟩ : ∃ n3, Hid (pairN ms 10 = n3) := ⟨_, hid rfl⟩
  rw [N0.out] at p0
  have C0 : Hid (pairN ms (4 + 2 * 0) = n0) := hid N0.out
  rw [N1.out] at p1
  have C1 : Hid (pairN ms (4 + 2 * 1) = n1) := hid N1.out
  rw [N2.out] at p2
  have C2 : Hid (pairN ms (4 + 2 * 2) = n2) := hid N2.out
  rw [N3.out] at p3
  have C3 : Hid (pairN ms (4 + 2 * 3) = n3) := hid N3.out
  have G0 : Hid (partsN (readQ ms) n0 12 = (k0, qs, a0)) := hid (by rw [← N0.out]; exact E0.out)
  have G1 : Hid (partsN (readR ms) n1 a0 = (k1, r1, a1)) := hid (by rw [← N1.out]; exact E1.out)
  have G2 : Hid (partsN (readR ms) n2 a1 = (k2, r2, a2)) := hid (by rw [← N2.out]; exact E2.out)
  have G3 : Hid (partsN (readR ms) n3 a2 = (k3, r3, a3)) := hid (by rw [← N3.out]; exact E3.out)
  have i1 : ¬ (ms.length : Int) < 12 := by omega
  go_enter Tryd.func7, Tryd.ntmps7
  go_wp2_with fail
  have B0 : Below w.heap.size w _ := (Below.refl _ w).alloc (Nat.le_refl _) (.cells ms0 28)
  have K0 := Bl.new 28 w ms0
  refine (hread_hd h ms _ (hs.below B0) rfl (by omega) HH.out).mono ?_
  rintro e w1 ⟨rfl, b1⟩
  have B1 := hid (grown_on B0 b1)
  have K1 := hid (K0.below b1)
  have hw1 : w.heap.size < w1.heap.size := K1.out.lt
  clear B0 K0 b1
  go_wp2_with fail
  have BA : Below w1.heap.size w1 ((w1.alloc (.cells #[.int .i64 h.id, .bool h.an, .int .i64 h.op, .bool h.aa, .bool h.tc, .bool h.rd, .bool h.ra, .bool h.z, .bool h.ad, .bool h.cd, .int .i64 h.code] 24)).alloc (.cells #[.int .i64 h.id, .bool h.an, .int .i64 h.op, .bool h.aa, .bool h.tc, .bool h.rd, .bool h.ra, .bool h.z, .bool h.ad, .bool h.cd, .int .i64 h.code, .slice none 0 0, .slice none 0 0, .slice none 0 0, .slice none 0 0] 28)) := ((Below.refl _ w1).alloc (Nat.le_refl _) _).alloc (by simp) _
  have KM : Bl 28 ((w1.alloc (.cells #[.int .i64 h.id, .bool h.an, .int .i64 h.op, .bool h.aa, .bool h.tc, .bool h.rd, .bool h.ra, .bool h.z, .bool h.ad, .bool h.cd, .int .i64 h.code] 24)).alloc (.cells #[.int .i64 h.id, .bool h.an, .int .i64 h.op, .bool h.aa, .bool h.tc, .bool h.rd, .bool h.ra, .bool h.z, .bool h.ad, .bool h.cd, .int .i64 h.code, .slice none 0 0, .slice none 0 0, .slice none 0 0, .slice none 0 0] 28)) (w1.heap.size + 1) #[.int .i64 h.id, .bool h.an, .int .i64 h.op, .bool h.aa, .bool h.tc, .bool h.rd, .bool h.ra, .bool h.z, .bool h.ad, .bool h.cd, .int .i64 h.code, .slice none 0 0, .slice none 0 0, .slice none 0 0, .slice none 0 0] := by
    have k := Bl.new 28 (w1.alloc (.cells #[.int .i64 h.id, .bool h.an, .int .i64 h.op, .bool h.aa, .bool h.tc, .bool h.rd, .bool h.ra, .bool h.z, .bool h.ad, .bool h.cd, .int .i64 h.code] 24)) #[.int .i64 h.id, .bool h.an, .int .i64 h.op, .bool h.aa, .bool h.tc, .bool h.rd, .bool h.ra, .bool h.z, .bool h.ad, .bool h.cd, .int .i64 h.code, .slice none 0 0, .slice none 0 0, .slice none 0 0, .slice none 0 0]
    have e : (w1.alloc (.cells #[.int .i64 h.id, .bool h.an, .int .i64 h.op, .bool h.aa, .bool h.tc, .bool h.rd, .bool h.ra, .bool h.z, .bool h.ad, .bool h.cd, .int .i64 h.code] 24)).heap.size = w1.heap.size + 1 := by simp
    rw [e] at k
    exact k
  have B2 := hid (grown_on B1.out BA)
  have K2 := hid (K1.out.below BA)
  clear BA B1 K1
  obtain ⟨M, hM⟩ : ∃ M, w1.heap.size + 1 = M := ⟨_, rfl⟩
  rw [hM] at KM
  rw [hM]
  have hM1 : w.heap.size < M := by omega
  generalize (w1.alloc (.cells #[.int .i64 h.id, .bool h.an, .int .i64 h.op, .bool h.aa, .bool h.tc, .bool h.rd, .bool h.ra, .bool h.z, .bool h.ad, .bool h.cd, .int .i64 h.code] 24)).alloc (.cells #[.int .i64 h.id, .bool h.an, .int .i64 h.op, .bool h.aa, .bool h.tc, .bool h.rd, .bool h.ra, .bool h.z, .bool h.ad, .bool h.cd, .int .i64 h.code, .slice none 0 0, .slice none 0 0, .slice none 0 0, .slice none 0 0] 28) = W at *
  have KM2 := hid KM
  have hMW : M < W.heap.size := KM.lt
  clear KM hM hw1
  refine (count_at n0 0 ms _ (hs.below B2.out) rfl (by decide) h12' C0.out).mono ?_
  rintro e _ ⟨rfl, rfl⟩
  go_wp2_with fail
  refine (parts_q k0 qs a0 ms 12 n0 _ (hs.below B2.out) rfl h12' p0 G0.out).mono ?_
  rintro e W2 ⟨xq, cq, rfl, hq, b2⟩
  have B3 := grown_on B2.out b2
  have K3 := K2.out.below b2
  have M3 := KM2.out.below b2
  have Q3 := hid (hq.base (B' := M + 1) hMW)
  clear b2 B2 K2 KM2 hq
  by_cases z0 : k0 = 0
  case neg =>
    have X : Hid (msgR ms = (k0, [], [], [], [])) := hid (msgR_q h12' E0.out z0)
    rw [errV_some z0]
    have Z := hid z0
    clear M3 z0
    have yc0 : W2.cell? ⟨w.heap.size, 0, none⟩ = some (.int .i64 0) := K3.cell (i := 0) rfl
    have yf0 := K3.frozen 0
    have yc1 : W2.cell? ⟨w.heap.size, 1, none⟩ = some (.bool false) := K3.cell (i := 1) rfl
    have yf1 := K3.frozen 1
    have yc2 : W2.cell? ⟨w.heap.size, 2, none⟩ = some (.int .i64 0) := K3.cell (i := 2) rfl
    have yf2 := K3.frozen 2
    have yc3 : W2.cell? ⟨w.heap.size, 3, none⟩ = some (.bool false) := K3.cell (i := 3) rfl
    have yf3 := K3.frozen 3
    have yc4 : W2.cell? ⟨w.heap.size, 4, none⟩ = some (.bool false) := K3.cell (i := 4) rfl
    have yf4 := K3.frozen 4
    have yc5 : W2.cell? ⟨w.heap.size, 5, none⟩ = some (.bool false) := K3.cell (i := 5) rfl
    have yf5 := K3.frozen 5
    have yc6 : W2.cell? ⟨w.heap.size, 6, none⟩ = some (.bool false) := K3.cell (i := 6) rfl
    have yf6 := K3.frozen 6
    have yc7 : W2.cell? ⟨w.heap.size, 7, none⟩ = some (.bool false) := K3.cell (i := 7) rfl
    have yf7 := K3.frozen 7
    have yc8 : W2.cell? ⟨w.heap.size, 8, none⟩ = some (.bool false) := K3.cell (i := 8) rfl
    have yf8 := K3.frozen 8
    have yc9 : W2.cell? ⟨w.heap.size, 9, none⟩ = some (.bool false) := K3.cell (i := 9) rfl
    have yf9 := K3.frozen 9
    have yc10 : W2.cell? ⟨w.heap.size, 10, none⟩ = some (.int .i64 0) := K3.cell (i := 10) rfl
    have yf10 := K3.frozen 10
    have yc11 : W2.cell? ⟨w.heap.size, 11, none⟩ = some (.slice none 0 0) := K3.cell (i := 11) rfl
    have yf11 := K3.frozen 11
    have yc12 : W2.cell? ⟨w.heap.size, 12, none⟩ = some (.slice none 0 0) := K3.cell (i := 12) rfl
    have yf12 := K3.frozen 12
    have yc13 : W2.cell? ⟨w.heap.size, 13, none⟩ = some (.slice none 0 0) := K3.cell (i := 13) rfl
    have yf13 := K3.frozen 13
    have yc14 : W2.cell? ⟨w.heap.size, 14, none⟩ = some (.slice none 0 0) := K3.cell (i := 14) rfl
    have yf14 := K3.frozen 14
    have QR := hid K3
    have QB := hid B3
    clear K3 B3
    go_wp2_with fail
    refine bodyPost_ret (results_mread _ _ w.heap.size _ _ _ _ _ _ _ _ _ _ _ _ _ _ _ rfl (QR.out.put15 _ _ _ _ _ _ _ _ _ _ _ _ _ _ _)) rfl ?_
    exact Or.inr ⟨k0, Z.out, X.out, rfl, below_put15 QB.out (Nat.le_refl _) _ _ _ _ _ _ _ _ _ _ _ _ _ _ _⟩
  subst z0
  have a0l := F0.out rfl
  have F1b : Hid (k1 = 0 → a1 ≤ ms.length) := hid (F1.out rfl)
  have F2b : Hid (k1 = 0 → k2 = 0 → a2 ≤ ms.length) := hid (F2.out rfl)
  have F3b : Hid (k1 = 0 → k2 = 0 → k3 = 0 → a3 ≤ ms.length) := hid (F3.out rfl)
  clear F0 F1 F2 F3
  have m11 := M3.cell (i := 11) rfl
  have f11 := M3.frozen 11
  have KS : Hid (Bl 28 (W2.setCell ⟨M, 11, none⟩ (.slice xq qs.length cq)) M #[.int .i64 h.id, .bool h.an, .int .i64 h.op, .bool h.aa, .bool h.tc, .bool h.rd, .bool h.ra, .bool h.z, .bool h.ad, .bool h.cd, .int .i64 h.code, .slice xq qs.length cq, .slice none 0 0, .slice none 0 0, .slice none 0 0]) := hid (M3.set 11 _)
  have QS := hid (Q3.out.far (p := ⟨M, 11, none⟩) (Nat.lt_succ_self _) (.slice xq qs.length cq))
  have RS := hid (K3.far (p := ⟨M, 11, none⟩) (by simp; omega) (.slice xq qs.length cq))
  have BS := hid (B3.setCell (p := ⟨M, 11, none⟩) (Nat.le_of_lt hM1) (.slice xq qs.length cq))
  clear M3 Q3 K3 B3
  rw [errV_none]
  go_wp2_with fail
  generalize W2.setCell ⟨M, 11, none⟩ (.slice xq qs.length cq) = W3 at *
  refine (records_any M _).mono ?_
  rintro e W4 ⟨rfl, b4⟩
  have ST : Hid (MSt h w M qs none none none W4) := hid (MSt.below ⟨xq, cq, _, _, _, KS.out, QS.out, (fun r e => by cases e), (fun r e => by cases e), (fun r e => by cases e), RS.out, hM1, BS.out⟩ b4)
  clear b4 KS QS RS BS m11 f11
  have j0 : ∀ u : World, (Instr.index 79 (secsV M) (.int .i64 0)).run Tryd.prog u = .ok (.pointer (some ⟨M, 12, none⟩)) u := fun _ => by kernel_rfl
  have j1 : ∀ u : World, (Instr.index 79 (secsV M) (.int .i64 1)).run Tryd.prog u = .ok (.pointer (some ⟨M, 13, none⟩)) u := fun _ => by kernel_rfl
  have j2 : ∀ u : World, (Instr.index 79 (secsV M) (.int .i64 2)).run Tryd.prog u = .ok (.pointer (some ⟨M, 14, none⟩)) u := fun _ => by kernel_rfl
  go_wp2_with fail
  go_loopw [8, 42] (fun va vi wr => MRel h w M qs r1 r2 r3 k1 k2 k3 a0 a1 a2 a3 va vi wr) (fun _ i _ => 3 - (intOf i).toNat)
  case atStart => exact Or.inl ⟨rfl, rfl, ST.out⟩
  case round =>
    clear ST
    rcases hrel with ⟨rfl, rfl, st⟩ | ⟨z1, rfl, rfl, st⟩ | ⟨z1, z2, rfl, rfl, st⟩ | ⟨z1, z2, z3, rfl, rfl, st⟩
    · have S := hid st
      have hMl : M < wr.heap.size := st.cell.2.2.2.2.2.2
      clear st
      have al := a0l
      go_wp2_with fail
      refine (count_at n1 1 ms _ (hs.below S.out.bel) rfl (by decide) h12' C1.out).mono ?_
      rintro e _ ⟨rfl, rfl⟩
      go_wp2_with fail
      refine (parts_r k1 r1 a1 ms a0 n1 _ (hs.below S.out.bel) rfl al p1 G1.out).mono ?_
      rintro e W5 ⟨y, s, rfl, hr5, b5⟩
      have S5 := hid (S.out.below b5)
      have S6 := hid (S5.out.put1 (hr5.base (B' := M + 1) hMl))
      obtain ⟨⟨v5, d5⟩, _, _, g5, _, _, _⟩ := S5.out.cell
      clear b5 hr5 S S5
      by_cases z1 : k1 = 0
      case neg =>
        have X : Hid (msgR ms = (k1, [], [], [], [])) := hid (msgR_1 h12' E0.out E1.out z1)
        rw [errV_some z1]
        have Z := hid z1
        clear z1
        go_upto_region 15 with fail
        clear d5 g5
        generalize W5.setCell ⟨M, 12, none⟩ (.slice y r1.length s) = W6 at *
        have K3 := S6.out.res
        have B3 := S6.out.bel
        clear S6
        have yc0 : W6.cell? ⟨w.heap.size, 0, none⟩ = some (.int .i64 0) := K3.cell (i := 0) rfl
        have yf0 := K3.frozen 0
        have yc1 : W6.cell? ⟨w.heap.size, 1, none⟩ = some (.bool false) := K3.cell (i := 1) rfl
        have yf1 := K3.frozen 1
        have yc2 : W6.cell? ⟨w.heap.size, 2, none⟩ = some (.int .i64 0) := K3.cell (i := 2) rfl
        have yf2 := K3.frozen 2
        have yc3 : W6.cell? ⟨w.heap.size, 3, none⟩ = some (.bool false) := K3.cell (i := 3) rfl
        have yf3 := K3.frozen 3
        have yc4 : W6.cell? ⟨w.heap.size, 4, none⟩ = some (.bool false) := K3.cell (i := 4) rfl
        have yf4 := K3.frozen 4
        have yc5 : W6.cell? ⟨w.heap.size, 5, none⟩ = some (.bool false) := K3.cell (i := 5) rfl
        have yf5 := K3.frozen 5
        have yc6 : W6.cell? ⟨w.heap.size, 6, none⟩ = some (.bool false) := K3.cell (i := 6) rfl
        have yf6 := K3.frozen 6
        have yc7 : W6.cell? ⟨w.heap.size, 7, none⟩ = some (.bool false) := K3.cell (i := 7) rfl
        have yf7 := K3.frozen 7
        have yc8 : W6.cell? ⟨w.heap.size, 8, none⟩ = some (.bool false) := K3.cell (i := 8) rfl
        have yf8 := K3.frozen 8
        have yc9 : W6.cell? ⟨w.heap.size, 9, none⟩ = some (.bool false) := K3.cell (i := 9) rfl
        have yf9 := K3.frozen 9
        have yc10 : W6.cell? ⟨w.heap.size, 10, none⟩ = some (.int .i64 0) := K3.cell (i := 10) rfl
        have yf10 := K3.frozen 10
        have yc11 : W6.cell? ⟨w.heap.size, 11, none⟩ = some (.slice none 0 0) := K3.cell (i := 11) rfl
        have yf11 := K3.frozen 11
        have yc12 : W6.cell? ⟨w.heap.size, 12, none⟩ = some (.slice none 0 0) := K3.cell (i := 12) rfl
        have yf12 := K3.frozen 12
        have yc13 : W6.cell? ⟨w.heap.size, 13, none⟩ = some (.slice none 0 0) := K3.cell (i := 13) rfl
        have yf13 := K3.frozen 13
        have yc14 : W6.cell? ⟨w.heap.size, 14, none⟩ = some (.slice none 0 0) := K3.cell (i := 14) rfl
        have yf14 := K3.frozen 14
        have QR := hid K3
        have QB := hid B3
        clear K3 B3
        go_wp2_with fail
        refine bodyPost_ret (results_mread _ _ w.heap.size _ _ _ _ _ _ _ _ _ _ _ _ _ _ _ rfl (QR.out.put15 _ _ _ _ _ _ _ _ _ _ _ _ _ _ _)) rfl ?_
        exact Or.inr ⟨k1, Z.out, X.out, rfl, below_put15 QB.out (Nat.le_refl _) _ _ _ _ _ _ _ _ _ _ _ _ _ _ _⟩
      subst z1
      rw [errV_none]
      go_wp2_with fail
      exact ⟨Or.inr (Or.inl ⟨rfl, rfl, rfl, S6.out⟩), by simp [intOf]⟩
    · have S := hid st
      have hMl : M < wr.heap.size := st.cell.2.2.2.2.2.2
      clear st
      subst z1
      have al := F1b.out rfl
      go_wp2_with fail
      refine (count_at n2 2 ms _ (hs.below S.out.bel) rfl (by decide) h12' C2.out).mono ?_
      rintro e _ ⟨rfl, rfl⟩
      go_wp2_with fail
      refine (parts_r k2 r2 a2 ms a1 n2 _ (hs.below S.out.bel) rfl al p2 G2.out).mono ?_
      rintro e W5 ⟨y, s, rfl, hr5, b5⟩
      have S5 := hid (S.out.below b5)
      have S6 := hid (S5.out.put2 (hr5.base (B' := M + 1) hMl))
      obtain ⟨_, ⟨v5, d5⟩, _, _, g5, _, _⟩ := S5.out.cell
      clear b5 hr5 S S5
      by_cases z2 : k2 = 0
      case neg =>
        have X : Hid (msgR ms = (k2, [], [], [], [])) := hid (msgR_2 h12' E0.out E1.out E2.out z2)
        rw [errV_some z2]
        have Z := hid z2
        clear z2
        go_upto_region 15 with fail
        clear d5 g5
        generalize W5.setCell ⟨M, 13, none⟩ (.slice y r2.length s) = W6 at *
        have K3 := S6.out.res
        have B3 := S6.out.bel
        clear S6
        have yc0 : W6.cell? ⟨w.heap.size, 0, none⟩ = some (.int .i64 0) := K3.cell (i := 0) rfl
        have yf0 := K3.frozen 0
        have yc1 : W6.cell? ⟨w.heap.size, 1, none⟩ = some (.bool false) := K3.cell (i := 1) rfl
        have yf1 := K3.frozen 1
        have yc2 : W6.cell? ⟨w.heap.size, 2, none⟩ = some (.int .i64 0) := K3.cell (i := 2) rfl
        have yf2 := K3.frozen 2
        have yc3 : W6.cell? ⟨w.heap.size, 3, none⟩ = some (.bool false) := K3.cell (i := 3) rfl
        have yf3 := K3.frozen 3
        have yc4 : W6.cell? ⟨w.heap.size, 4, none⟩ = some (.bool false) := K3.cell (i := 4) rfl
        have yf4 := K3.frozen 4
        have yc5 : W6.cell? ⟨w.heap.size, 5, none⟩ = some (.bool false) := K3.cell (i := 5) rfl
        have yf5 := K3.frozen 5
        have yc6 : W6.cell? ⟨w.heap.size, 6, none⟩ = some (.bool false) := K3.cell (i := 6) rfl
        have yf6 := K3.frozen 6
        have yc7 : W6.cell? ⟨w.heap.size, 7, none⟩ = some (.bool false) := K3.cell (i := 7) rfl
        have yf7 := K3.frozen 7
        have yc8 : W6.cell? ⟨w.heap.size, 8, none⟩ = some (.bool false) := K3.cell (i := 8) rfl
        have yf8 := K3.frozen 8
        have yc9 : W6.cell? ⟨w.heap.size, 9, none⟩ = some (.bool false) := K3.cell (i := 9) rfl
        have yf9 := K3.frozen 9
        have yc10 : W6.cell? ⟨w.heap.size, 10, none⟩ = some (.int .i64 0) := K3.cell (i := 10) rfl
        have yf10 := K3.frozen 10
        have yc11 : W6.cell? ⟨w.heap.size, 11, none⟩ = some (.slice none 0 0) := K3.cell (i := 11) rfl
        have yf11 := K3.frozen 11
        have yc12 : W6.cell? ⟨w.heap.size, 12, none⟩ = some (.slice none 0 0) := K3.cell (i := 12) rfl
        have yf12 := K3.frozen 12
        have yc13 : W6.cell? ⟨w.heap.size, 13, none⟩ = some (.slice none 0 0) := K3.cell (i := 13) rfl
        have yf13 := K3.frozen 13
        have yc14 : W6.cell? ⟨w.heap.size, 14, none⟩ = some (.slice none 0 0) := K3.cell (i := 14) rfl
        have yf14 := K3.frozen 14
        have QR := hid K3
        have QB := hid B3
        clear K3 B3
        go_wp2_with fail
        refine bodyPost_ret (results_mread _ _ w.heap.size _ _ _ _ _ _ _ _ _ _ _ _ _ _ _ rfl (QR.out.put15 _ _ _ _ _ _ _ _ _ _ _ _ _ _ _)) rfl ?_
        exact Or.inr ⟨k2, Z.out, X.out, rfl, below_put15 QB.out (Nat.le_refl _) _ _ _ _ _ _ _ _ _ _ _ _ _ _ _⟩
      subst z2
      rw [errV_none]
      go_wp2_with fail
      exact ⟨Or.inr (Or.inr (Or.inl ⟨rfl, rfl, rfl, rfl, S6.out⟩)), by simp [intOf]⟩
    · have S := hid st
      have hMl : M < wr.heap.size := st.cell.2.2.2.2.2.2
      clear st
      subst z1
      subst z2
      have al := F2b.out rfl rfl
      go_wp2_with fail
      refine (count_at n3 3 ms _ (hs.below S.out.bel) rfl (by decide) h12' C3.out).mono ?_
      rintro e _ ⟨rfl, rfl⟩
      go_wp2_with fail
      refine (parts_r k3 r3 a3 ms a2 n3 _ (hs.below S.out.bel) rfl al p3 G3.out).mono ?_
      rintro e W5 ⟨y, s, rfl, hr5, b5⟩
      have S5 := hid (S.out.below b5)
      have S6 := hid (S5.out.put3 (hr5.base (B' := M + 1) hMl))
      obtain ⟨_, _, ⟨v5, d5⟩, _, _, g5, _⟩ := S5.out.cell
      clear b5 hr5 S S5
      by_cases z3 : k3 = 0
      case neg =>
        have X : Hid (msgR ms = (k3, [], [], [], [])) := hid (msgR_3 h12' E0.out E1.out E2.out E3.out z3)
        rw [errV_some z3]
        have Z := hid z3
        clear z3
        go_upto_region 15 with fail
        clear d5 g5
        generalize W5.setCell ⟨M, 14, none⟩ (.slice y r3.length s) = W6 at *
        have K3 := S6.out.res
        have B3 := S6.out.bel
        clear S6
        have yc0 : W6.cell? ⟨w.heap.size, 0, none⟩ = some (.int .i64 0) := K3.cell (i := 0) rfl
        have yf0 := K3.frozen 0
        have yc1 : W6.cell? ⟨w.heap.size, 1, none⟩ = some (.bool false) := K3.cell (i := 1) rfl
        have yf1 := K3.frozen 1
        have yc2 : W6.cell? ⟨w.heap.size, 2, none⟩ = some (.int .i64 0) := K3.cell (i := 2) rfl
        have yf2 := K3.frozen 2
        have yc3 : W6.cell? ⟨w.heap.size, 3, none⟩ = some (.bool false) := K3.cell (i := 3) rfl
        have yf3 := K3.frozen 3
        have yc4 : W6.cell? ⟨w.heap.size, 4, none⟩ = some (.bool false) := K3.cell (i := 4) rfl
        have yf4 := K3.frozen 4
        have yc5 : W6.cell? ⟨w.heap.size, 5, none⟩ = some (.bool false) := K3.cell (i := 5) rfl
        have yf5 := K3.frozen 5
        have yc6 : W6.cell? ⟨w.heap.size, 6, none⟩ = some (.bool false) := K3.cell (i := 6) rfl
        have yf6 := K3.frozen 6
        have yc7 : W6.cell? ⟨w.heap.size, 7, none⟩ = some (.bool false) := K3.cell (i := 7) rfl
        have yf7 := K3.frozen 7
        have yc8 : W6.cell? ⟨w.heap.size, 8, none⟩ = some (.bool false) := K3.cell (i := 8) rfl
        have yf8 := K3.frozen 8
        have yc9 : W6.cell? ⟨w.heap.size, 9, none⟩ = some (.bool false) := K3.cell (i := 9) rfl
        have yf9 := K3.frozen 9
        have yc10 : W6.cell? ⟨w.heap.size, 10, none⟩ = some (.int .i64 0) := K3.cell (i := 10) rfl
        have yf10 := K3.frozen 10
        have yc11 : W6.cell? ⟨w.heap.size, 11, none⟩ = some (.slice none 0 0) := K3.cell (i := 11) rfl
        have yf11 := K3.frozen 11
        have yc12 : W6.cell? ⟨w.heap.size, 12, none⟩ = some (.slice none 0 0) := K3.cell (i := 12) rfl
        have yf12 := K3.frozen 12
        have yc13 : W6.cell? ⟨w.heap.size, 13, none⟩ = some (.slice none 0 0) := K3.cell (i := 13) rfl
        have yf13 := K3.frozen 13
        have yc14 : W6.cell? ⟨w.heap.size, 14, none⟩ = some (.slice none 0 0) := K3.cell (i := 14) rfl
        have yf14 := K3.frozen 14
        have QR := hid K3
        have QB := hid B3
        clear K3 B3
        go_wp2_with fail
        refine bodyPost_ret (results_mread _ _ w.heap.size _ _ _ _ _ _ _ _ _ _ _ _ _ _ _ rfl (QR.out.put15 _ _ _ _ _ _ _ _ _ _ _ _ _ _ _)) rfl ?_
        exact Or.inr ⟨k3, Z.out, X.out, rfl, below_put15 QB.out (Nat.le_refl _) _ _ _ _ _ _ _ _ _ _ _ _ _ _ _⟩
      subst z3
      rw [errV_none]
      go_wp2_with fail
      exact ⟨Or.inr (Or.inr (Or.inr ⟨rfl, rfl, rfl, rfl, rfl, S6.out⟩)), by simp [intOf]⟩
    · subst z1 z2 z3
      have al := F3b.out rfl rfl rfl
      have X := hid (msgR_4 h12' E0.out E1.out E2.out E3.out)
      have S := hid st
      clear st
      by_cases hc1 : a3 < ms.length
      · have X2 : Hid (msgR ms = (8, [], [], [], [])) := hid (by rw [X.out, if_pos hc1])
        have hc2 : (a3 : Int) < (ms.length : Int) := by omega
        have K3 := S.out.res
        have B3 := S.out.bel
        clear S
        have yc0 : wr.cell? ⟨w.heap.size, 0, none⟩ = some (.int .i64 0) := K3.cell (i := 0) rfl
        have yf0 := K3.frozen 0
        have yc1 : wr.cell? ⟨w.heap.size, 1, none⟩ = some (.bool false) := K3.cell (i := 1) rfl
        have yf1 := K3.frozen 1
        have yc2 : wr.cell? ⟨w.heap.size, 2, none⟩ = some (.int .i64 0) := K3.cell (i := 2) rfl
        have yf2 := K3.frozen 2
        have yc3 : wr.cell? ⟨w.heap.size, 3, none⟩ = some (.bool false) := K3.cell (i := 3) rfl
        have yf3 := K3.frozen 3
        have yc4 : wr.cell? ⟨w.heap.size, 4, none⟩ = some (.bool false) := K3.cell (i := 4) rfl
        have yf4 := K3.frozen 4
        have yc5 : wr.cell? ⟨w.heap.size, 5, none⟩ = some (.bool false) := K3.cell (i := 5) rfl
        have yf5 := K3.frozen 5
        have yc6 : wr.cell? ⟨w.heap.size, 6, none⟩ = some (.bool false) := K3.cell (i := 6) rfl
        have yf6 := K3.frozen 6
        have yc7 : wr.cell? ⟨w.heap.size, 7, none⟩ = some (.bool false) := K3.cell (i := 7) rfl
        have yf7 := K3.frozen 7
        have yc8 : wr.cell? ⟨w.heap.size, 8, none⟩ = some (.bool false) := K3.cell (i := 8) rfl
        have yf8 := K3.frozen 8
        have yc9 : wr.cell? ⟨w.heap.size, 9, none⟩ = some (.bool false) := K3.cell (i := 9) rfl
        have yf9 := K3.frozen 9
        have yc10 : wr.cell? ⟨w.heap.size, 10, none⟩ = some (.int .i64 0) := K3.cell (i := 10) rfl
        have yf10 := K3.frozen 10
        have yc11 : wr.cell? ⟨w.heap.size, 11, none⟩ = some (.slice none 0 0) := K3.cell (i := 11) rfl
        have yf11 := K3.frozen 11
        have yc12 : wr.cell? ⟨w.heap.size, 12, none⟩ = some (.slice none 0 0) := K3.cell (i := 12) rfl
        have yf12 := K3.frozen 12
        have yc13 : wr.cell? ⟨w.heap.size, 13, none⟩ = some (.slice none 0 0) := K3.cell (i := 13) rfl
        have yf13 := K3.frozen 13
        have yc14 : wr.cell? ⟨w.heap.size, 14, none⟩ = some (.slice none 0 0) := K3.cell (i := 14) rfl
        have yf14 := K3.frozen 14
        have QR := hid K3
        have QB := hid B3
        clear K3 B3
        go_wp2_with fail
        refine bodyPost_ret (results_mread _ _ w.heap.size _ _ _ _ _ _ _ _ _ _ _ _ _ _ _ rfl (QR.out.put15 _ _ _ _ _ _ _ _ _ _ _ _ _ _ _)) rfl ?_
        exact Or.inr ⟨8, by decide, X2.out, rfl, below_put15 QB.out (Nat.le_refl _) _ _ _ _ _ _ _ _ _ _ _ _ _ _ _⟩
      · have X2 : Hid (msgR ms = (0, qs, r1, r2, r3)) := hid (by rw [X.out, if_neg hc1])
        have hc2 : ¬ (a3 : Int) < (ms.length : Int) := by omega
        obtain ⟨xq, cq, v1, v2, v3, k1, k2, k3, k4, k5, k6, k7, k8⟩ := S.out
        obtain ⟨x1, c1, rfl, s1⟩ := k3 r1 rfl
        obtain ⟨x2, c2, rfl, s2⟩ := k4 r2 rfl
        obtain ⟨x3, c3, rfl, s3⟩ := k5 r3 rfl
        clear k3 k4 k5 S
        have xc0 : wr.cell? ⟨M, 0, none⟩ = some (.int .i64 h.id) := k1.cell (i := 0) rfl
        have xc1 : wr.cell? ⟨M, 1, none⟩ = some (.bool h.an) := k1.cell (i := 1) rfl
        have xc2 : wr.cell? ⟨M, 2, none⟩ = some (.int .i64 h.op) := k1.cell (i := 2) rfl
        have xc3 : wr.cell? ⟨M, 3, none⟩ = some (.bool h.aa) := k1.cell (i := 3) rfl
        have xc4 : wr.cell? ⟨M, 4, none⟩ = some (.bool h.tc) := k1.cell (i := 4) rfl
        have xc5 : wr.cell? ⟨M, 5, none⟩ = some (.bool h.rd) := k1.cell (i := 5) rfl
        have xc6 : wr.cell? ⟨M, 6, none⟩ = some (.bool h.ra) := k1.cell (i := 6) rfl
        have xc7 : wr.cell? ⟨M, 7, none⟩ = some (.bool h.z) := k1.cell (i := 7) rfl
        have xc8 : wr.cell? ⟨M, 8, none⟩ = some (.bool h.ad) := k1.cell (i := 8) rfl
        have xc9 : wr.cell? ⟨M, 9, none⟩ = some (.bool h.cd) := k1.cell (i := 9) rfl
        have xc10 : wr.cell? ⟨M, 10, none⟩ = some (.int .i64 h.code) := k1.cell (i := 10) rfl
        have xc11 : wr.cell? ⟨M, 11, none⟩ = some (.slice xq qs.length cq) := k1.cell (i := 11) rfl
        have xc12 : wr.cell? ⟨M, 12, none⟩ = some (.slice x1 r1.length c1) := k1.cell (i := 12) rfl
        have xc13 : wr.cell? ⟨M, 13, none⟩ = some (.slice x2 r2.length c2) := k1.cell (i := 13) rfl
        have xc14 : wr.cell? ⟨M, 14, none⟩ = some (.slice x3 r3.length c3) := k1.cell (i := 14) rfl
        have QQ := hid k2
        have Q1 := hid s1
        have Q2 := hid s2
        have Q3 := hid s3
        have hMl : M < wr.heap.size := k1.lt
        clear k1 k2 s1 s2 s3
        have yc0 : wr.cell? ⟨w.heap.size, 0, none⟩ = some (.int .i64 0) := k6.cell (i := 0) rfl
        have yf0 := k6.frozen 0
        have yc1 : wr.cell? ⟨w.heap.size, 1, none⟩ = some (.bool false) := k6.cell (i := 1) rfl
        have yf1 := k6.frozen 1
        have yc2 : wr.cell? ⟨w.heap.size, 2, none⟩ = some (.int .i64 0) := k6.cell (i := 2) rfl
        have yf2 := k6.frozen 2
        have yc3 : wr.cell? ⟨w.heap.size, 3, none⟩ = some (.bool false) := k6.cell (i := 3) rfl
        have yf3 := k6.frozen 3
        have yc4 : wr.cell? ⟨w.heap.size, 4, none⟩ = some (.bool false) := k6.cell (i := 4) rfl
        have yf4 := k6.frozen 4
        have yc5 : wr.cell? ⟨w.heap.size, 5, none⟩ = some (.bool false) := k6.cell (i := 5) rfl
        have yf5 := k6.frozen 5
        have yc6 : wr.cell? ⟨w.heap.size, 6, none⟩ = some (.bool false) := k6.cell (i := 6) rfl
        have yf6 := k6.frozen 6
        have yc7 : wr.cell? ⟨w.heap.size, 7, none⟩ = some (.bool false) := k6.cell (i := 7) rfl
        have yf7 := k6.frozen 7
        have yc8 : wr.cell? ⟨w.heap.size, 8, none⟩ = some (.bool false) := k6.cell (i := 8) rfl
        have yf8 := k6.frozen 8
        have yc9 : wr.cell? ⟨w.heap.size, 9, none⟩ = some (.bool false) := k6.cell (i := 9) rfl
        have yf9 := k6.frozen 9
        have yc10 : wr.cell? ⟨w.heap.size, 10, none⟩ = some (.int .i64 0) := k6.cell (i := 10) rfl
        have yf10 := k6.frozen 10
        have yc11 : wr.cell? ⟨w.heap.size, 11, none⟩ = some (.slice none 0 0) := k6.cell (i := 11) rfl
        have yf11 := k6.frozen 11
        have yc12 : wr.cell? ⟨w.heap.size, 12, none⟩ = some (.slice none 0 0) := k6.cell (i := 12) rfl
        have yf12 := k6.frozen 12
        have yc13 : wr.cell? ⟨w.heap.size, 13, none⟩ = some (.slice none 0 0) := k6.cell (i := 13) rfl
        have yf13 := k6.frozen 13
        have yc14 : wr.cell? ⟨w.heap.size, 14, none⟩ = some (.slice none 0 0) := k6.cell (i := 14) rfl
        have yf14 := k6.frozen 14
        have QR := hid k6
        have QB := hid k8
        clear k6 k8
        go_wp2_with fail
        refine bodyPost_ret (results_mread _ _ w.heap.size _ _ _ _ _ _ _ _ _ _ _ _ _ _ _ rfl (QR.out.put15 _ _ _ _ _ _ _ _ _ _ _ _ _ _ _)) rfl ?_
        refine Or.inl ⟨qs, r1, r2, r3, X2.out, ?_⟩
        rw [HH.out]
        exact ⟨xq, cq, x1, c1, x2, c2, x3, c3, rfl, (far15q QQ.out (by omega) _ _ _ _ _ _ _ _ _ _ _ _ _ _ _).base (by omega), (far15r Q1.out (by omega) _ _ _ _ _ _ _ _ _ _ _ _ _ _ _).base (by omega), (far15r Q2.out (by omega) _ _ _ _ _ _ _ _ _ _ _ _ _ _ _).base (by omega), (far15r Q3.out (by omega) _ _ _ _ _ _ _ _ _ _ _ _ _ _ _).base (by omega), below_put15 QB.out (Nat.le_refl _) _ _ _ _ _ _ _ _ _ _ _ _ _ _ _⟩

end Go.Proofs.YtpmbbaacpnooeaaDoor

namespace Go.Proofs.YtpmbbaacpnooeaaDoor
open Go.RowKit Go.Deep

theorem getD_take {ms : List Int} {n a : Nat} (h : a < (ms.take n).length) : (ms.take n).getD a 0 = ms.getD a 0 := by
  rw [List.length_take] at h
  rw [List.getD_eq_getElem?_getD, List.getD_eq_getElem?_getD, List.getElem?_take_of_lt (by omega)]

theorem cut_take {ms : List Int} {n a k : Nat} (h : a + k ≤ (ms.take n).length) : Nm.cut (ms.take n) a k = Nm.cut ms a k := by
  rw [List.length_take] at h
  unfold Nm.cut
  rw [List.drop_take, List.take_take, Nat.min_eq_left (by omega)]

theorem rd_torn (ms : List Int) (n : Nat) : ∀ (f a low size : Nat) (L : List (List Int)) (e : Nat), Nm.rd ms f a low size = (0, L, e) → Nm.rd (ms.take n) f a low size = (0, L, e) ∨ (Nm.rd (ms.take n) f a low size).1 = 2 := by
  intro f
  induction f with
  | zero => intro a low size L e h; exact absurd h Nm.rd_zero
  | succ f ih =>
    intro a low size L e h
    by_cases c1 : (ms.take n).length ≤ a
    · right; unfold Nm.rd; rw [if_pos c1]
    have e1 := getD_take (ms := ms) (n := n) (a := a) (by omega)
    rcases Nm.rd_cases h with ⟨h1, h2, rfl, rfl⟩ | ⟨h1, h2, h3, h4, rfl, e', h5⟩ | ⟨h1, h2, h3, h4, h5, M, rfl, h6⟩
    · left; exact Nm.rd_end (by omega) (by rw [e1]; exact h2)
    · by_cases c2 : (ms.take n).length ≤ a + 1
      · right; unfold Nm.rd; rw [if_neg c1, if_neg (by rw [e1]; exact h2), if_pos (by rw [e1]; exact h3), if_pos c2]
      · have e2 : Nm.place (ms.take n) a = Nm.place ms a := by unfold Nm.place; rw [e1, getD_take (by omega)]
        rcases ih _ _ _ _ _ h5 with q | q
        · left; exact Nm.rd_ptr (by omega) (by rw [e1]; exact h2) (by rw [e1]; exact h3) (by rw [e2]; exact h4) (by rw [e2]; exact q)
        · right
          unfold Nm.rd
          rw [if_neg c1, if_neg (by rw [e1]; exact h2), if_pos (by rw [e1]; exact h3), if_neg c2, if_neg (by rw [e2]; omega), e2]
          unfold Nm.ends
          rw [if_neg (by rw [q]; decide)]
          exact q
    · have e2 : Nm.long (ms.take n) a = Nm.long ms a := by unfold Nm.long; rw [e1]
      by_cases c2 : (ms.take n).length ≤ a + Nm.long ms a
      · right; unfold Nm.rd; rw [if_neg c1, if_neg (by rw [e1]; exact h2), if_neg (by rw [e1]; exact h3), if_neg (by rw [e1]; exact h4), if_pos (by rw [e2]; exact c2)]
      · have e3 := cut_take (ms := ms) (n := n) (a := a + 1) (k := Nm.long ms a) (by omega)
        rcases ih _ _ _ _ _ h6 with q | q
        · left
          have := @Nm.rd_label (ms.take n) f a low size M e (by rw [e2]; omega) (by rw [e1]; exact h2) (by rw [e1]; exact h3) (by rw [e1]; exact h4) (by rw [e2]; exact h5) (by rw [e2]; exact q)
          rw [this, e2, e3]
        · right
          unfold Nm.rd
          rw [if_neg c1, if_neg (by rw [e1]; exact h2), if_neg (by rw [e1]; exact h3), if_neg (by rw [e1]; exact h4), if_neg (by rw [e2]; exact c2), if_neg (by rw [e2]; omega), e2]
          unfold Nm.ahead
          rw [if_neg (by rw [q]; decide)]
          exact q

theorem readW_torn {ms : List Int} (n : Nat) {at0 : Int} {L : List (List Int)} {e : Nat} (h : readW ms at0 = (0, L, e)) : readW (ms.take n) at0 = (0, L, e) ∨ (readW (ms.take n) at0).1 = 2 := by
  obtain ⟨h0, h1⟩ := readW_ok h
  have hf : Nm.fu (ms.take n) at0.toNat at0.toNat ≤ Nm.fu ms at0.toNat at0.toNat := by
    have h2 : (ms.take n).length ≤ ms.length := by rw [List.length_take]; omega
    have h3 : at0.toNat * ((ms.take n).length + 1) ≤ at0.toNat * (ms.length + 1) := Nat.mul_le_mul_left _ (by omega)
    unfold Nm.fu
    omega
  have h2 := rd_torn ms n _ _ _ _ _ _ h1
  rw [Nm.rd_enough (ms.take n) at0.toNat at0.toNat 1 _ hf] at h2
  unfold readW
  rw [if_neg (by omega)]
  exact h2

theorem readQ_torn {ms : List Int} (n a : Nat) (q : Qn) (m : Nat) (h : readQ ms a = (0, q, m)) : readQ (ms.take n) a = (0, q, m) ∨ (readQ (ms.take n) a).1 = 2 := by
  obtain ⟨L, k, h1, h2, rfl, rfl⟩ := readQ_ok h
  rcases readW_torn n h1 with g | g
  · by_cases c : (ms.take n).length < k + 4
    · right; rw [readQ_short g c]
    · left; rw [readQ_of g (by omega), cut_take (by omega), cut_take (by omega)]
  · right
    obtain ⟨⟨k2, L2, m2⟩, e⟩ : ∃ s, readW (ms.take n) (a : Int) = s := ⟨_, rfl⟩
    rw [e] at g
    simp only at g
    subst g
    rw [readQ_bad e (by decide)]

theorem readR_torn {ms : List Int} (n a : Nat) (r : Rn) (m : Nat) (h : readR ms a = (0, r, m)) : readR (ms.take n) a = (0, r, m) ∨ (readR (ms.take n) a).1 = 2 := by
  obtain ⟨L, k, h1, h2, h3, rfl⟩ := readR_ok h
  obtain ⟨h4, _, _⟩ := recW_ok h1
  rcases readW_torn n h4 with g | g
  · have hp : ∀ i, i + 2 ≤ (ms.take n).length → pairN (ms.take n) i = pairN ms i := by
      intro i hi
      unfold pairN
      rw [getD_take (by omega), getD_take (by omega)]
    by_cases c : (ms.take n).length < k + 10
    · right
      rw [readR_bad (k := 2) (by unfold recW; rw [g]; simp only; rw [if_neg (by simp), if_pos c]) (by decide)]
    · by_cases c2 : (ms.take n).length < k + 10 + pairN ms (k + 8)
      · right
        rw [readR_bad (k := 2) (by unfold recW; rw [g]; simp only; rw [if_neg (by simp), if_neg c, hp _ (by omega), if_pos c2]) (by decide)]
      · left
        have e : recW (ms.take n) (a : Int) = (0, L, k, m) := by
          unfold recW
          rw [g]
          simp only
          rw [if_neg (by simp), if_neg c, hp _ (by omega), if_neg c2, h2]
        rw [readR_of e, cut_take (by omega), cut_take (by omega), cut_take (by omega), hp _ (by omega), cut_take (by omega)]
  · right
    obtain ⟨⟨k2, L2, m2⟩, e⟩ : ∃ s, readW (ms.take n) (a : Int) = s := ⟨_, rfl⟩
    rw [e] at g
    simp only at g
    subst g
    rw [readR_bad (k := 2) (by unfold recW; rw [e]; simp only; rw [if_pos (by decide)]) (by decide)]

/-- No beginning alone of bytes that are a message is one. -/
theorem msgR_torn {ms : List Int} (hb : ∀ b ∈ ms, 0 ≤ b ∧ b ≤ 255) {qs : List Qn} {r1 r2 r3 : List Rn} (h : msgR ms = (0, qs, r1, r2, r3)) {n : Nat} (hn : n < ms.length) : msgR (ms.take n) = (2, [], [], [], []) := by
  obtain ⟨h12, a0, a1, a2, e0, e1, e2, e3, f0, f1, f2⟩ := msgR_ok hb h
  have hl : (ms.take n).length = n := by rw [List.length_take]; omega
  by_cases c : n < 12
  · exact msgR_short (by omega)
  have hb' : ∀ b ∈ ms.take n, 0 ≤ b ∧ b ≤ 255 := fun b q => hb b (List.mem_of_mem_take q)
  have hp : ∀ i, i + 2 ≤ 12 → pairN (ms.take n) i = pairN ms i := by
    intro i hi
    unfold pairN
    rw [getD_take (by omega), getD_take (by omega)]
  have g0 := parts_cut (readQ_torn (ms := ms) n) e0
  rcases g0 with g0 | g0
  case inr =>
    obtain ⟨⟨k, l, m⟩, e⟩ : ∃ s, partsN (readQ (ms.take n)) (pairN ms 4) 12 = s := ⟨_, rfl⟩
    rw [e] at g0; simp only at g0; subst g0
    rw [← hp 4 (by omega)] at e
    exact msgR_q (by omega) e (by decide)
  have g1 := parts_cut (readR_torn (ms := ms) n) e1
  rw [← hp 4 (by omega)] at g0
  rcases g1 with g1 | g1
  case inr =>
    obtain ⟨⟨k, l, m⟩, e⟩ : ∃ s, partsN (readR (ms.take n)) (pairN ms 6) a0 = s := ⟨_, rfl⟩
    rw [e] at g1; simp only at g1; subst g1
    rw [← hp 6 (by omega)] at e
    exact msgR_1 (by omega) g0 e (by decide)
  have g2 := parts_cut (readR_torn (ms := ms) n) e2
  rw [← hp 6 (by omega)] at g1
  rcases g2 with g2 | g2
  case inr =>
    obtain ⟨⟨k, l, m⟩, e⟩ : ∃ s, partsN (readR (ms.take n)) (pairN ms 8) a1 = s := ⟨_, rfl⟩
    rw [e] at g2; simp only at g2; subst g2
    rw [← hp 8 (by omega)] at e
    exact msgR_2 (by omega) g0 g1 e (by decide)
  have g3 := parts_cut (readR_torn (ms := ms) n) e3
  rw [← hp 8 (by omega)] at g2
  rcases g3 with g3 | g3
  case inr =>
    obtain ⟨⟨k, l, m⟩, e⟩ : ∃ s, partsN (readR (ms.take n)) (pairN ms 10) a2 = s := ⟨_, rfl⟩
    rw [e] at g3; simp only at g3; subst g3
    rw [← hp 10 (by omega)] at e
    exact msgR_3 (by omega) g0 g1 g2 e (by decide)
  exfalso
  have k0 := parts_end (readQ_step hb') (parts_ok g0).2 (by omega)
  have k1 := parts_end (readR_step hb') (parts_ok g1).2 k0.2
  have k2 := parts_end (readR_step hb') (parts_ok g2).2 k1.2
  have k3 := parts_end (readR_step hb') (parts_ok g3).2 k2.2
  omega

theorem parts_more {α : Type} {f g : Nat → Int × α × Nat} (hfg : ∀ a x n, f a = (0, x, n) → g a = (0, x, n)) {c a e : Nat} {xs : List α} (h : partsN f c a = (0, xs, e)) : partsN g c a = (0, xs, e) := by
  obtain ⟨h1, h2⟩ := parts_ok h
  have := parts_of (parts_mono hfg h2)
  rw [h1] at this
  exact this

/-- Nor are they with more behind them. -/
theorem msgR_extra {ms : List Int} (hb : ∀ b ∈ ms, 0 ≤ b ∧ b ≤ 255) {qs : List Qn} {r1 r2 r3 : List Rn} (h : msgR ms = (0, qs, r1, r2, r3)) {more : List Int} (hm : ¬ more = []) : msgR (ms ++ more) = (8, [], [], [], []) := by
  obtain ⟨h12, a0, a1, a2, e0, e1, e2, e3, f0, f1, f2⟩ := msgR_ok hb h
  have hl : 0 < more.length := by
    rcases Nat.eq_zero_or_pos more.length with q | q
    · exact absurd (List.length_eq_zero_iff.1 q) hm
    · exact q
  have g0 := parts_more (readQ_more more) e0
  have g1 := parts_more (readR_more more) e1
  have g2 := parts_more (readR_more more) e2
  have g3 := parts_more (readR_more more) e3
  rw [← pair_more ms more 4 (by omega)] at g0
  rw [← pair_more ms more 6 (by omega)] at g1
  rw [← pair_more ms more 8 (by omega)] at g2
  rw [← pair_more ms more 10 (by omega)] at g3
  rw [msgR_4 (by rw [List.length_append]; omega) g0 g1 g2 g3, if_pos (by rw [List.length_append]; omega)]

theorem rd_far {ms : List Int} : ∀ (f a low size : Nat) (L : List (List Int)) (e : Nat), Nm.rd ms f a low size = (0, L, e) → e ≤ a + Nm.total L + 2 := by
  intro f
  induction f with
  | zero => intro a low size L e h; exact absurd h Nm.rd_zero
  | succ f ih =>
    intro a low size L e h
    rcases Nm.rd_cases h with ⟨h1, h2, rfl, rfl⟩ | ⟨h1, h2, h3, h4, rfl, e', h5⟩ | ⟨h1, h2, h3, h4, h5, M, rfl, h6⟩
    · omega
    · omega
    · have := ih _ _ _ _ _ h6
      rw [Nm.total_cons, Nm.cut_length (by omega)]
      omega

theorem readW_far {ms : List Int} (hb : ∀ b ∈ ms, 0 ≤ b ∧ b ≤ 255) {a : Nat} {L : List (List Int)} {e : Nat} (h : readW ms (a : Int) = (0, L, e)) : e ≤ a + 256 := by
  obtain ⟨h0, h1⟩ := readW_ok h
  have h2 := rd_far _ _ _ _ _ _ h1
  obtain ⟨_, _, _, h3, _⟩ := readW_may hb h
  have := (check_zero h3).2
  omega

theorem parts_far {α : Type} {f : Nat → Int × α × Nat} {K : Nat} (hf : ∀ a x n, f a = (0, x, n) → n ≤ a + K) : ∀ {xs : List α} {a e : Nat}, Parts f a xs e → e ≤ a + xs.length * K := by
  intro xs
  induction xs with
  | nil => intro a e h; unfold Parts at h; subst h; omega
  | cons x xs ih =>
    intro a e h
    unfold Parts at h
    obtain ⟨n, h1, h2⟩ := h
    have := hf a x n h1
    have := ih h2
    rw [List.length_cons, Nat.succ_mul]
    omega

/-- How long bytes that are a message can be. -/
theorem msg_long {ms : List Int} (hb : ∀ b ∈ ms, 0 ≤ b ∧ b ≤ 255) {qs : List Qn} {r1 r2 r3 : List Rn} (h : msgR ms = (0, qs, r1, r2, r3)) : ms.length ≤ 20000000000 := by
  obtain ⟨h12, a0, a1, a2, e0, e1, e2, e3, f0, f1, f2⟩ := msgR_ok hb h
  have q0 : ∀ a x n, readQ ms a = (0, x, n) → n ≤ a + 66000 := by
    intro a x n h
    obtain ⟨L, m, h1, _, rfl, _⟩ := readQ_ok h
    have := readW_far hb h1
    omega
  have q1 : ∀ a x n, readR ms a = (0, x, n) → n ≤ a + 66000 := by
    intro a x n h
    obtain ⟨L, m, h1, h2, _, _⟩ := readR_ok h
    have := readW_far hb (recW_ok h1).1
    have := pair_le hb (m + 8)
    omega
  obtain ⟨l0, p0⟩ := parts_ok e0
  obtain ⟨l1, p1⟩ := parts_ok e1
  obtain ⟨l2, p2⟩ := parts_ok e2
  obtain ⟨l3, p3⟩ := parts_ok e3
  have k0 := parts_far q0 p0
  have k1 := parts_far q1 p1
  have k2 := parts_far q1 p2
  have k3 := parts_far q1 p3
  have z0 := pair_le hb 4
  have z1 := pair_le hb 6
  have z2 := pair_le hb 8
  have z3 := pair_le hb 10
  omega

/-- A message without anything. -/
def hdZ : Hd := ⟨0, false, 0, false, false, false, false, false, false, false, 0⟩

theorem fact_empty : msgE hdZ [] [] [] [] = 0 ∧ (endS hdZ [] [] [] []).1.length = 12 := by decide +kernel

theorem mwrite_empty (w : World) : Calls Tryd.prog 11 #[.agg #[.int .i64 0, .bool false, .int .i64 0, .bool false, .bool false, .bool false, .bool false, .bool false, .bool false, .bool false, .int .i64 0, .slice none 0 0, .slice none 0 0, .slice none 0 0, .slice none 0 0]] w fun e w' => ∃ x c, e = .returned (.tuple #[.slice x 12 c, .nilIface]) ∧ Below w.heap.size w w' := by
  have k := mwrite_any (bq := 0) hdZ [] [] [] [] w (Qs.nil w 0 none 0) (Rs.nil w 0 none 0) (Rs.nil w 0 none 0) (Rs.nil w 0 none 0)
  have k2 : Calls Tryd.prog 11 #[.agg #[.int .i64 0, .bool false, .int .i64 0, .bool false, .bool false, .bool false, .bool false, .bool false, .bool false, .bool false, .int .i64 0, .slice none 0 0, .slice none 0 0, .slice none 0 0, .slice none 0 0]] w (WrotePost hdZ [] [] [] [] w) := k
  refine k2.mono ?_
  rintro e w' (⟨_, x, c, rfl, _, hb⟩ | ⟨hn, _⟩)
  · rw [fact_empty.2]
    exact ⟨x, c, rfl, hb⟩
  · exact absurd fact_empty.1 hn

theorem mread_err {x : Option Addr} {c l : Nat} (k : Int) (ms : List Int) (w : World) (hs : Bys w x c ms) (hl : ms.length = l) (hr : msgR ms = (k, [], [], [], [])) (hk : ¬ k = 0) :
    Calls Tryd.prog 7 #[.slice x l c] w fun e w' => e = .returned (.tuple #[.agg #[.int .i64 0, .bool false, .int .i64 0, .bool false, .bool false, .bool false, .bool false, .bool false, .bool false, .bool false, .int .i64 0, .slice none 0 0, .slice none 0 0, .slice none 0 0, .slice none 0 0], .iface 29 (.int .i64 k)]) ∧ Below w.heap.size w w' := by
  refine (mread_any ms w hs hl).mono ?_
  rintro e w' (⟨qs, r1, r2, r3, h, _⟩ | ⟨k', _, h, he, hb⟩)
  · rw [hr] at h
    simp only [Prod.mk.injEq] at h
    exact absurd h.1 hk
  · rw [hr] at h
    simp only [Prod.mk.injEq] at h
    rw [← h.1] at he
    exact ⟨he, hb⟩

theorem mread_good {x : Option Addr} {c l : Nat} {qs : List Qn} {r1 r2 r3 : List Rn} (ms : List Int) (w : World) (hs : Bys w x c ms) (hl : ms.length = l) (hr : msgR ms = (0, qs, r1, r2, r3)) :
    Calls Tryd.prog 7 #[.slice x l c] w (MsgAt (hdR ms) qs r1 r2 r3 w) := by
  refine (mread_any ms w hs hl).mono ?_
  rintro e w' (⟨qs', r1', r2', r3', h, k⟩ | ⟨k', h0, h, he, hb⟩)
  · rw [hr] at h
    simp only [Prod.mk.injEq, true_and] at h
    obtain ⟨rfl, rfl, rfl, rfl⟩ := h
    exact k
  · rw [hr] at h
    simp only [Prod.mk.injEq] at h
    exact absurd h.1.symm h0

theorem mread_norm (ms : List Int) : (msgR ms).1 = 0 ∨ msgR ms = ((msgR ms).1, [], [], [], []) := by
  by_cases h12 : ms.length < 12
  · right; rw [msgR_short h12]
  have h12' : 12 ≤ ms.length := by omega
  obtain ⟨⟨k0, qs, a0⟩, e0⟩ : ∃ s, partsN (readQ ms) (pairN ms 4) 12 = s := ⟨_, rfl⟩
  by_cases z0 : k0 = 0
  case neg => right; rw [msgR_q h12' e0 z0]
  subst z0
  obtain ⟨⟨k1, r1, a1⟩, e1⟩ : ∃ s, partsN (readR ms) (pairN ms 6) a0 = s := ⟨_, rfl⟩
  by_cases z1 : k1 = 0
  case neg => right; rw [msgR_1 h12' e0 e1 z1]
  subst z1
  obtain ⟨⟨k2, r2, a2⟩, e2⟩ : ∃ s, partsN (readR ms) (pairN ms 8) a1 = s := ⟨_, rfl⟩
  by_cases z2 : k2 = 0
  case neg => right; rw [msgR_2 h12' e0 e1 e2 z2]
  subst z2
  obtain ⟨⟨k3, r3, a3⟩, e3⟩ : ∃ s, partsN (readR ms) (pairN ms 10) a2 = s := ⟨_, rfl⟩
  by_cases z3 : k3 = 0
  case neg => right; rw [msgR_3 h12' e0 e1 e2 e3 z3]
  subst z3
  rw [msgR_4 h12' e0 e1 e2 e3]
  by_cases c : a3 < ms.length
  · right; rw [if_pos c]
  · left; rw [if_neg c]

theorem mread_hd {x : Option Addr} {c l : Nat} {qs : List Qn} {r1 r2 r3 : List Rn} (h : Hd) (ms : List Int) (w : World) (hs : Bys w x c ms) (hl : ms.length = l) (hr : msgR ms = (0, qs, r1, r2, r3)) (hh : hdR ms = h) :
    Calls Tryd.prog 7 #[.slice x l c] w (MsgAt h qs r1 r2 r3 w) := by
  subst hh
  exact mread_good ms w hs hl hr

end Go.Proofs.YtpmbbaacpnooeaaDoor

namespace Go.Proofs.YtpmbbaacpnooeaaDoor
open Go.RowKit Go.Deep

theorem fold_q (qs : List Qn) : ∀ s : List Int × List (Int × List ByteArray), ∃ more, (qs.foldl stepQ s).1 = s.1 ++ more := by
  induction qs with
  | nil => intro s; exact ⟨[], by simp⟩
  | cons q qs ih =>
    intro s
    obtain ⟨more, h⟩ := ih (stepQ s q)
    refine ⟨packB s.2 q.N ++ (twoN q.ty ++ twoN q.cl) ++ more, ?_⟩
    rw [List.foldl_cons, h]
    simp [stepQ]

theorem fold_r (rs : List Rn) : ∀ s : List Int × List (Int × List ByteArray), ∃ more, (rs.foldl stepR s).1 = s.1 ++ more := by
  induction rs with
  | nil => intro s; exact ⟨[], by simp⟩
  | cons r rs ih =>
    intro s
    obtain ⟨more, h⟩ := ih (stepR s r)
    refine ⟨packB s.2 r.N ++ fieldsN r.ty r.cl r.ttl r.D ++ more, ?_⟩
    rw [List.foldl_cons, h]
    simp [stepR]

theorem read_q {s : List Int × List (Int × List ByteArray)} {q : Qn} (hs : Good s) (hq : qE q = 0) (more : List Int) : readQ ((stepQ s q).1 ++ more) s.1.length = (0, q, (stepQ s q).1.length) := by
  obtain ⟨k0, ⟨t0, t1⟩, t2, t3⟩ := qE_zero hq
  have hr := (tab_next hs.1 hs.2.1 k0 (twoN q.ty ++ twoN q.cl ++ more)).1
  have e : (stepQ s q).1 ++ more = s.1 ++ packB s.2 q.N ++ (twoN q.ty ++ twoN q.cl ++ more) := by simp [stepQ]
  have el : (stepQ s q).1.length = (s.1 ++ packB s.2 q.N).length + 4 := by simp only [stepQ, List.length_append, two_len]
  rw [e, readQ_of hr (by simp only [List.length_append, two_len]; omega), el]
  generalize s.1 ++ packB s.2 q.N = P
  have c1 : Nm.cut (P ++ (twoN q.ty ++ twoN q.cl ++ more)) P.length 2 = twoN q.ty := by
    have := cut_behind P (twoN q.ty ++ twoN q.cl ++ more) 0 2
    rw [Nat.add_zero] at this
    rw [this]
    simp [Nm.cut, twoN]
  have c2 : Nm.cut (P ++ (twoN q.ty ++ twoN q.cl ++ more)) (P.length + 2) 2 = twoN q.cl := by
    rw [cut_behind]
    simp [Nm.cut, twoN]
  rw [c1, c2, two_num _ t0 t1, two_num _ t2 t3, map_nums]

theorem read_r {s : List Int × List (Int × List ByteArray)} {r : Rn} (hs : Good s) (hr : rE r = 0) (more : List Int) :
    recW ((stepR s r).1 ++ more) (s.1.length : Int) = (0, r.N.map Nm.bs, (s.1 ++ packB s.2 r.N).length, (stepR s r).1.length) ∧ readR ((stepR s r).1 ++ more) s.1.length = (0, r, (stepR s r).1.length) := by
  obtain ⟨k0, ⟨t0, t1⟩, ⟨t2, t3⟩, ⟨t4, t5⟩, hd⟩ := recE_zero hr
  have hp := (pack_is r.N hs.2.1).1
  have f := rec_found (ms := s.1) (starts := startsT s.2 r.N) (more := more) (n := r.N) (ty := r.ty) (cl := r.cl) (ttl := r.ttl) (D := r.D) hs.1 k0 hd
  rw [hp] at f
  have e : (stepR s r).1 ++ more = s.1 ++ packB s.2 r.N ++ fieldsN r.ty r.cl r.ttl r.D ++ more := rfl
  have el : (stepR s r).1.length = (s.1 ++ packB s.2 r.N).length + 10 + r.D.length := by
    show (s.1 ++ packB s.2 r.N ++ fieldsN r.ty r.cl r.ttl r.D).length = _
    rw [List.length_append, fields_len]
    omega
  have f2 : recW ((stepR s r).1 ++ more) (s.1.length : Int) = (0, r.N.map Nm.bs, (s.1 ++ packB s.2 r.N).length, (stepR s r).1.length) := by
    rw [el, e]
    exact f
  refine ⟨f2, ?_⟩
  rw [readR_of f2]
  have hpn : pairN ((stepR s r).1 ++ more) ((s.1 ++ packB s.2 r.N).length + 8) = r.D.length := by
    obtain ⟨_, h2, _⟩ := recW_ok f2
    omega
  rw [hpn, e]
  generalize s.1 ++ packB s.2 r.N = P
  rw [rec_ty P more t0 t1, rec_cl P more t2 t3, rec_ttl P more t4 t5, rec_data P more, map_nums]

theorem back_q : ∀ (qs : List Qn) (s : List Int × List (Int × List ByteArray)) (more : List Int), Good s → (∀ q ∈ qs, qE q = 0) → Parts (readQ ((qs.foldl stepQ s).1 ++ more)) s.1.length qs (qs.foldl stepQ s).1.length := by
  intro qs
  induction qs with
  | nil => intro s more _ _; rfl
  | cons q qs ih =>
    intro s more hs hq
    have h1 := hq q List.mem_cons_self
    obtain ⟨m2, e⟩ := fold_q qs (stepQ s q)
    rw [List.foldl_cons]
    refine ⟨(stepQ s q).1.length, ?_, ih (stepQ s q) more (good_q hs (qE_zero h1).1) fun x hx => hq x (List.mem_cons_of_mem _ hx)⟩
    rw [e, List.append_assoc]
    exact read_q hs h1 _

theorem back_r : ∀ (rs : List Rn) (s : List Int × List (Int × List ByteArray)) (more : List Int), Good s → (∀ r ∈ rs, rE r = 0) → (∀ r ∈ rs, ∀ b ∈ r.D, 0 ≤ b ∧ b ≤ 255) → Parts (readR ((rs.foldl stepR s).1 ++ more)) s.1.length rs (rs.foldl stepR s).1.length := by
  intro rs
  induction rs with
  | nil => intro s more _ _ _; rfl
  | cons r rs ih =>
    intro s more hs hr hD
    have h1 := hr r List.mem_cons_self
    obtain ⟨m2, e⟩ := fold_r rs (stepR s r)
    rw [List.foldl_cons]
    refine ⟨(stepR s r).1.length, ?_, ih (stepR s r) more (good_r hs (recE_zero h1).1 (hD r List.mem_cons_self)) (fun x hx => hr x (List.mem_cons_of_mem _ hx)) fun x hx => hD x (List.mem_cons_of_mem _ hx)⟩
    rw [e, List.append_assoc]
    exact (read_r hs h1 _).2

theorem parts_split {α : Type} {f : Nat → Int × α × Nat} : ∀ {xs ys : List α} {a e : Nat}, Parts f a (xs ++ ys) e → ∃ b, Parts f a xs b ∧ Parts f b ys e := by
  intro xs
  induction xs with
  | nil => intro ys a e h; exact ⟨a, rfl, h⟩
  | cons x xs ih =>
    intro ys a e h
    obtain ⟨n, h1, h2⟩ := h
    obtain ⟨b, h3, h4⟩ := ih h2
    exact ⟨b, ⟨n, h1, h3⟩, h4⟩

/-- A message that can be sent. -/
theorem msgE_zero {h : Hd} {qs : List Qn} {r1 r2 r3 : List Rn} (k : msgE h qs r1 r2 r3 = 0) : HdOk h ∧ (qs.length ≤ 65535 ∧ r1.length ≤ 65535 ∧ r2.length ≤ 65535 ∧ r3.length ≤ 65535) ∧ (∀ q ∈ qs, qE q = 0) ∧ (∀ r ∈ r1 ++ r2 ++ r3, rE r = 0) ∧ (endS h qs r1 r2 r3).1.length ≤ 65535 := by
  unfold msgE at k
  by_cases c0 : hdE h = 0
  case neg => rw [if_pos c0] at k; exact absurd k c0
  rw [if_neg (by simp [c0])] at k
  by_cases c1 : 65535 < qs.length ∨ 65535 < r1.length ∨ 65535 < r2.length ∨ 65535 < r3.length
  · rw [if_pos c1] at k; cases k
  rw [if_neg c1] at k
  by_cases c2 : firstE qE qs = 0
  case neg => rw [if_pos c2] at k; exact absurd k c2
  rw [if_neg (by simp [c2])] at k
  by_cases c3 : firstE rE (r1 ++ r2 ++ r3) = 0
  case neg => rw [if_pos c3] at k; exact absurd k c3
  rw [if_neg (fun q => q c3)] at k
  by_cases c4 : 65535 < (endS h qs r1 r2 r3).1.length
  · rw [if_pos c4] at k; cases k
  exact ⟨hdE_of c0, by omega, firstE_all c2, firstE_all c3, by omega⟩

theorem ahead_pairs (h : Hd) (l0 l1 l2 l3 : Nat) (h0 : l0 ≤ 65535) (h1 : l1 ≤ 65535) (h2 : l2 ≤ 65535) (h3 : l3 ≤ 65535) (more : List Int) :
    pairN (aheadN h l0 l1 l2 l3 ++ more) 4 = l0 ∧ pairN (aheadN h l0 l1 l2 l3 ++ more) 6 = l1 ∧ pairN (aheadN h l0 l1 l2 l3 ++ more) 8 = l2 ∧ pairN (aheadN h l0 l1 l2 l3 ++ more) 10 = l3 := by
  simp only [pairN, aheadN, hdB, headN, twoN, List.cons_append, List.nil_append, List.getD_cons_succ, List.getD_cons_zero]
  omega

theorem end_form (h : Hd) (qs : List Qn) (r1 r2 r3 : List Rn) : ∃ more, (endS h qs r1 r2 r3).1 = aheadN h qs.length r1.length r2.length r3.length ++ more := by
  obtain ⟨m1, e1⟩ := fold_q qs (aheadN h qs.length r1.length r2.length r3.length, [])
  obtain ⟨m2, e2⟩ := fold_r (r1 ++ r2 ++ r3) (qs.foldl stepQ (aheadN h qs.length r1.length r2.length r3.length, []))
  refine ⟨m1 ++ m2, ?_⟩
  unfold endS
  rw [e2, e1, List.append_assoc]

/-- What is sent is read. -/
theorem msg_back {h : Hd} {qs : List Qn} {r1 r2 r3 : List Rn} (k : msgE h qs r1 r2 r3 = 0) (hD : ∀ r ∈ r1 ++ r2 ++ r3, ∀ b ∈ r.D, 0 ≤ b ∧ b ≤ 255) :
    msgR (endS h qs r1 r2 r3).1 = (0, qs, r1, r2, r3) ∧ hdR (endS h qs r1 r2 r3).1 = h ∧ (∀ b ∈ (endS h qs r1 r2 r3).1, 0 ≤ b ∧ b ≤ 255) := by
  obtain ⟨hh, ⟨l0, l1, l2, l3⟩, hq, hr, _⟩ := msgE_zero k
  have g0 := good_start hh qs.length r1.length r2.length r3.length
  have g1 := good_qs g0 hq
  have g2 := good_rs g1 hr hD
  obtain ⟨more, ef⟩ := end_form h qs r1 r2 r3
  obtain ⟨m2, e2⟩ := fold_r (r1 ++ r2 ++ r3) (qs.foldl stepQ (aheadN h qs.length r1.length r2.length r3.length, []))
  have pq := back_q qs (aheadN h qs.length r1.length r2.length r3.length, []) m2 g0 hq
  rw [← e2] at pq
  have pr := back_r (r1 ++ r2 ++ r3) (qs.foldl stepQ (aheadN h qs.length r1.length r2.length r3.length, [])) [] g1 hr hD
  rw [List.append_nil] at pr
  have hF : ((r1 ++ r2 ++ r3).foldl stepR (qs.foldl stepQ (aheadN h qs.length r1.length r2.length r3.length, []))).1 = (endS h qs r1 r2 r3).1 := rfl
  rw [hF] at pq pr
  obtain ⟨b2, p12, p3⟩ := parts_split pr
  obtain ⟨b1, p1, p2⟩ := parts_split p12
  obtain ⟨n0, n1, n2, n3⟩ := ahead_pairs h qs.length r1.length r2.length r3.length l0 l1 l2 l3 more
  rw [← ef] at n0 n1 n2 n3
  have q0 : partsN (readQ (endS h qs r1 r2 r3).1) (pairN (endS h qs r1 r2 r3).1 4) 12 = (0, qs, (qs.foldl stepQ (aheadN h qs.length r1.length r2.length r3.length, [])).1.length) := by rw [n0]; exact parts_of pq
  have q1 : partsN (readR (endS h qs r1 r2 r3).1) (pairN (endS h qs r1 r2 r3).1 6) (qs.foldl stepQ (aheadN h qs.length r1.length r2.length r3.length, [])).1.length = (0, r1, b1) := by rw [n1]; exact parts_of p1
  have q2 : partsN (readR (endS h qs r1 r2 r3).1) (pairN (endS h qs r1 r2 r3).1 8) b1 = (0, r2, b2) := by rw [n2]; exact parts_of p2
  have q3 : partsN (readR (endS h qs r1 r2 r3).1) (pairN (endS h qs r1 r2 r3).1 10) b2 = (0, r3, (endS h qs r1 r2 r3).1.length) := by rw [n3]; exact parts_of p3
  refine ⟨?_, ?_, g2.1⟩
  · rw [msgR_4 (by rw [ef, List.length_append, ahead_len]; omega) q0 q1 q2 q3, if_neg (Nat.lt_irrefl _)]
  · rw [ef]
    unfold aheadN
    rw [List.append_assoc, List.append_assoc, List.append_assoc, List.append_assoc]
    exact hdR_of hh _

theorem num_cut_two {ms : List Int} (hb : ∀ b ∈ ms, 0 ≤ b ∧ b ≤ 255) {i : Nat} (h : i + 2 ≤ ms.length) : 0 ≤ numN (Nm.cut ms i 2) ∧ numN (Nm.cut ms i 2) ≤ 65535 := by
  rw [num_cut2 h]
  have g0 := getD_byte hb i
  have g1 := getD_byte hb (i + 1)
  omega

theorem num_cut_four {ms : List Int} (hb : ∀ b ∈ ms, 0 ≤ b ∧ b ≤ 255) {i : Nat} (h : i + 4 ≤ ms.length) : 0 ≤ numN (Nm.cut ms i 4) ∧ numN (Nm.cut ms i 4) ≤ 4294967295 := by
  rw [num_cut4 h]
  have g0 := getD_byte hb i
  have g1 := getD_byte hb (i + 1)
  have g2 := getD_byte hb (i + 2)
  have g3 := getD_byte hb (i + 3)
  omega

theorem readQ_may {ms : List Int} (hb : ∀ b ∈ ms, 0 ≤ b ∧ b ≤ 255) {a n : Nat} {q : Qn} (h : readQ ms a = (0, q, n)) : qE q = 0 := by
  obtain ⟨L, m, h1, h2, _, rfl⟩ := readQ_ok h
  obtain ⟨_, _, _, c, d⟩ := readW_may hb h1
  unfold qE
  rw [map_bs_of L d, if_neg (by simp [c]), if_neg]
  simp only [Decidable.not_not]
  exact ⟨num_cut_two hb (by omega), num_cut_two hb (by omega)⟩

theorem readR_may {ms : List Int} (hb : ∀ b ∈ ms, 0 ≤ b ∧ b ≤ 255) {a n : Nat} {r : Rn} (h : readR ms a = (0, r, n)) : rE r = 0 ∧ ∀ b ∈ r.D, 0 ≤ b ∧ b ≤ 255 := by
  obtain ⟨L, m, h1, h2, h3, rfl⟩ := readR_ok h
  obtain ⟨_, _, _, c, d⟩ := readW_may hb (recW_ok h1).1
  refine ⟨?_, fun b q => hb b ?_⟩
  · unfold rE recE
    have hp := pair_le hb (m + 8)
    rw [map_bs_of L d, if_neg (by simp [c]), if_neg, if_neg]
    · rw [Nm.cut_length (by omega)]; omega
    · simp only [Decidable.not_not]
      exact ⟨num_cut_two hb (by omega), num_cut_two hb (by omega), num_cut_four hb (by omega)⟩
  · unfold Nm.cut at q
    exact List.mem_of_mem_drop (List.mem_of_mem_take q)

theorem parts_all {α : Type} {f : Nat → Int × α × Nat} {P : α → Prop} (hf : ∀ a x n, f a = (0, x, n) → P x) : ∀ {xs : List α} {a e : Nat}, Parts f a xs e → ∀ x ∈ xs, P x := by
  intro xs
  induction xs with
  | nil => intro a e _ x hx; simp at hx
  | cons y ys ih =>
    intro a e h x hx
    obtain ⟨n, h1, h2⟩ := h
    rcases List.mem_cons.1 hx with q | q
    · rw [q]; exact hf _ _ _ h1
    · exact ih h2 x q

/-- What is read can be sent, if it is not too long. -/
theorem read_sent {ms : List Int} (hb : ∀ b ∈ ms, 0 ≤ b ∧ b ≤ 255) {qs : List Qn} {r1 r2 r3 : List Rn} (h : msgR ms = (0, qs, r1, r2, r3)) :
    (msgE (hdR ms) qs r1 r2 r3 = 0 ∨ msgE (hdR ms) qs r1 r2 r3 = 7) ∧ ∀ r ∈ r1 ++ r2 ++ r3, ∀ b ∈ r.D, 0 ≤ b ∧ b ≤ 255 := by
  obtain ⟨h12, a0, a1, a2, e0, e1, e2, e3, f0, f1, f2⟩ := msgR_ok hb h
  obtain ⟨l0, p0⟩ := parts_ok e0
  obtain ⟨l1, p1⟩ := parts_ok e1
  obtain ⟨l2, p2⟩ := parts_ok e2
  obtain ⟨l3, p3⟩ := parts_ok e3
  have z0 := pair_le hb 4
  have z1 := pair_le hb 6
  have z2 := pair_le hb 8
  have z3 := pair_le hb 10
  have hq : ∀ q ∈ qs, qE q = 0 := parts_all (fun a x n k => readQ_may hb k) p0
  have k1 := parts_all (P := fun r => rE r = 0 ∧ ∀ b ∈ r.D, 0 ≤ b ∧ b ≤ 255) (fun a x n k => readR_may hb k) p1
  have k2 := parts_all (P := fun r => rE r = 0 ∧ ∀ b ∈ r.D, 0 ≤ b ∧ b ≤ 255) (fun a x n k => readR_may hb k) p2
  have k3 := parts_all (P := fun r => rE r = 0 ∧ ∀ b ∈ r.D, 0 ≤ b ∧ b ≤ 255) (fun a x n k => readR_may hb k) p3
  have hr : ∀ r ∈ r1 ++ r2 ++ r3, rE r = 0 ∧ ∀ b ∈ r.D, 0 ≤ b ∧ b ≤ 255 := by
    intro r hr
    simp only [List.mem_append] at hr
    rcases hr with (hr | hr) | hr
    · exact k1 r hr
    · exact k2 r hr
    · exact k3 r hr
  refine ⟨?_, fun r q => (hr r q).2⟩
  unfold msgE
  rw [hdE_ok (hdB_of hb (by omega)).2, if_neg (by simp), if_neg (by omega), firstE_zero hq, if_neg (by simp), firstE_zero (fun r q => (hr r q).1), if_neg (by simp)]
  by_cases c : 65535 < (endS (hdR ms) qs r1 r2 r3).1.length
  · rw [if_pos c]; exact Or.inr rfl
  · rw [if_neg c]; exact Or.inl rfl

end Go.Proofs.YtpmbbaacpnooeaaDoor

namespace Go.Proofs.YtpmbbaacpnooeaaDoor
open Go.RowKit Go.Deep

/-- The options that bytes are. -/
def parseO (D : List Int) : Option (List On) := optsN D.length D

theorem optsN_fuel : ∀ (f : Nat) (D : List Int), D.length ≤ f → optsN f D = optsN D.length D := by
  intro f
  induction f using Nat.strongRecOn with
  | _ f ih =>
    intro D hD
    cases D with
    | nil => cases f <;> rfl
    | cons b ms =>
      cases f with
      | zero => simp at hD
      | succ f =>
        have h1 : (b :: ms).length = ms.length + 1 := rfl
        rw [h1, optsN_step (by simp), optsN_step (by simp)]
        by_cases c1 : (b :: ms).length < 4
        · rw [if_pos c1, if_pos c1]
        · rw [if_neg c1, if_neg c1]
          by_cases c2 : (b :: ms).length < 4 + (numN (Nm.cut (b :: ms) 2 2)).toNat
          · rw [if_pos c2, if_pos c2]
          · rw [if_neg c2, if_neg c2]
            have hl : ((b :: ms).drop (4 + (numN (Nm.cut (b :: ms) 2 2)).toNat)).length ≤ ms.length := by rw [List.length_drop]; omega
            rw [ih f (by omega) _ (by omega)]
            by_cases c3 : ms.length = f
            · rw [c3, ih f (by omega) _ (by omega)]
            · rw [ih ms.length (by omega) _ hl]

theorem parseO_nil : parseO [] = some [] := rfl
/-- One option read. -/
theorem parseO_step {D : List Int} (h : D ≠ []) : parseO D = if D.length < 4 then none else if D.length < 4 + (numN (Nm.cut D 2 2)).toNat then none else (parseO (D.drop (4 + (numN (Nm.cut D 2 2)).toNat))).map (fun os => ⟨numN (Nm.cut D 0 2), Nm.cut D 4 (numN (Nm.cut D 2 2)).toNat⟩ :: os) := by
  unfold parseO
  cases D with
  | nil => exact absurd rfl h
  | cons b ms =>
    have h1 : (b :: ms).length = ms.length + 1 := rfl
    conv => lhs; rw [h1, optsN_step (by simp)]
    by_cases c1 : (b :: ms).length < 4
    · rw [if_pos c1, if_pos c1]
    · rw [if_neg c1, if_neg c1]
      by_cases c2 : (b :: ms).length < 4 + (numN (Nm.cut (b :: ms) 2 2)).toNat
      · rw [if_pos c2, if_pos c2]
      · rw [if_neg c2, if_neg c2, optsN_fuel ms.length _ (by rw [List.length_drop]; omega)]
theorem parseO_of {os : List On} (h : optE os = 0) : parseO (optB os) = some os := by
  refine optsN_of os h _ ?_
  rw [optB_len]
  clear h
  induction os with
  | nil => simp
  | cons o os ih => simp only [optSize, List.length_cons]; omega
theorem parseO_len : ∀ {D : List Int} {os : List On}, parseO D = some os → os.length ≤ D.length := by
  have key : ∀ (f : Nat) (D : List Int) (os : List On), optsN f D = some os → os.length ≤ D.length := by
    intro f
    induction f with
    | zero => intro D os h; cases D with | nil => (unfold optsN at h; cases h; simp) | cons b ms => (unfold optsN at h; cases h)
    | succ f ih =>
      intro D os h
      cases D with
      | nil => unfold optsN at h; cases h; simp
      | cons b ms =>
        rw [optsN_step (by simp)] at h
        by_cases c1 : (b :: ms).length < 4
        · rw [if_pos c1] at h; cases h
        rw [if_neg c1] at h
        by_cases c2 : (b :: ms).length < 4 + (numN (Nm.cut (b :: ms) 2 2)).toNat
        · rw [if_pos c2] at h; cases h
        rw [if_neg c2] at h
        obtain ⟨os', h1, rfl⟩ := Option.map_eq_some_iff.1 h
        have := ih _ _ h1
        rw [List.length_drop] at this
        simp only [List.length_cons] at this ⊢
        omega
  intro D os h; exact key _ _ _ h

def ocells (e : On × Option Addr × Nat) : List Value := [.int .i64 e.1.code, .slice e.2.1 e.1.D.length e.2.2]

/-- A row of options of the call's own. -/
def ORow (w : World) (B : Nat) (v : Value) (os : List On) : Prop :=
  ∃ L : List (On × Option Addr × Nat), L.map (·.1) = os ∧ w.ownsRow B 108 2 v L.length (L.flatMap ocells) ∧
    ∀ e ∈ L, Bys w e.2.1 e.2.2 e.1.D ∧ (e.2.1 = none → e.2.2 = 0) ∧ ∀ a, e.2.1 = some a → B ≤ a.block ∧ (e.1.D = [] ∨ some a.block ≠ v.ownBlock)

theorem ORow.nil (w : World) (B : Nat) : ORow w B (.slice none 0 0) [] := ⟨[], rfl, World.ownsRow_nil _ _ _ _, fun e he => by simp at he⟩
theorem ORow.below {w w' : World} {B : Nat} {v : Value} {os : List On} (h : ORow w B v os) (k : Below w.heap.size w w') : ORow w' B v os := by
  obtain ⟨L, h1, h2, h3⟩ := h
  exact ⟨L, h1, owns_stay h2 k, fun e he => ⟨(h3 e he).1.below k, (h3 e he).2⟩⟩

theorem info_of_option : ∃ i0, Tryd.prog.info? 108 = some i0 ∧ i0.zero = some (.agg #[.int .i64 0, .slice none 0 0]) ∧ i0.size = 2 ∧ i0.bytes = 32 := by
  have h : (Tryd.prog.info? 108).map (fun i => (i.zero, i.size, i.bytes)) = some (some (.agg #[.int .i64 0, .slice none 0 0]), 2, 32) := by kernel_rfl
  obtain ⟨i, hi, hz⟩ := Option.map_eq_some_iff.1 h
  simp only [Prod.mk.injEq] at hz
  exact ⟨i, hi, hz.1, hz.2.1, hz.2.2⟩

theorem ocells_len (L : List (On × Option Addr × Nat)) : (L.flatMap ocells).length = L.length * 2 := by
  induction L with
  | nil => rfl
  | cons e L ih => simp [ocells, ih]; omega
theorem ocells_at {L : List (On × Option Addr × Nat)} {i : Nat} (hi : i < L.length) : (L.flatMap ocells)[i * 2]? = some (.int .i64 L[i].1.code) ∧ (L.flatMap ocells)[i * 2 + 1]? = some (.slice L[i].2.1 L[i].1.D.length L[i].2.2) := by
  induction L generalizing i with
  | nil => simp at hi
  | cons e L ih =>
    cases i with
    | zero => simp [ocells]
    | succ i =>
      have hi' : i < L.length := by simpa using hi
      have := ih hi'
      rw [List.flatMap_cons]
      have e1 : (ocells e).length = 2 := rfl
      rw [List.getElem?_append_right (by rw [e1]; omega), List.getElem?_append_right (by rw [e1]; omega), e1, show (i + 1) * 2 - 2 = i * 2 by omega, show (i + 1) * 2 + 1 - 2 = i * 2 + 1 by omega]
      simpa using this

/-- An option appended. -/
theorem wp_append_orow {w : World} {B g cc : Nat} {v : Value} {os : List On} {r : On} {z : Option Addr} {t : Nat} {o : Oper} {a : Act} {K : Act → World → Prop} {Q : Exit → Act → World → Prop} (sl x : Operand)
    (ho : o.op = .call { callee := .builtin .append, args := #[sl, x], argTypes := #[44, 44] }) (hs : a.eval sl = v) (hx : a.eval x = .slice (some ⟨g, 0, none⟩) 1 cc) (hr : ORow w B v os) (hk : Bl 108 w g #[.int .i64 r.code, .slice z r.D.length t])
    (h2 : Bys w z t r.D) (h3 : z = none → t = 0) (h5 : ∀ a, z = some a → B ≤ a.block ∧ (r.D = [] ∨ some a.block ≠ v.ownBlock)) (hl : os.length ≤ 1000000000000) (hB : B ≤ w.heap.size)
    (hK : ∀ v' w', ORow w' B v' (os ++ [r]) → w.grownBy w' v.ownBlock → K (a.put o.dst v') w') : o.wp Tryd.prog a w K Q := by
  obtain ⟨i0, hi, hz0, hz1, hz2⟩ := info_of_option
  obtain ⟨L, hL, hown, hin⟩ := hr
  have hLl : L.length = os.length := by rw [← hL, List.length_map]
  obtain ⟨v1, w2, hrun, hown1, hgrow1, _, hloc⟩ := run_append_own_at (P := Tryd.prog) w B 44 o.type 108 i0 (.agg #[.int .i64 0, .slice none 0 0]) 2 32 Tryd.underlying44 hi hz0 hz1 hz2 rfl (by decide) v L.length (L.flatMap ocells) hown ⟨g, 0, none⟩ 1 cc [.int .i64 r.code, .slice z r.D.length t] rfl
    (fun j u hj => by
      rw [Go.WideShapes.add_plain, Nat.zero_add]
      exact hk.cell (i := j) (by rw [List.getElem?_toArray]; exact hj)) (by intro u hu; simp at hu; rcases hu with rfl | rfl <;> rfl) (by unfold maxLen; omega) (by omega) hB
  unfold Oper.wp execOp
  simp only [ho, resolve, invoke, builtin, Sem.run_bind, Sem.run_pure, Result.andThen_ok, List.map_toArray, List.map_cons, List.map_nil, hs, hx, hrun]
  refine hK v1 w2 ?_ hgrow1
  have hne : ∀ k, k < w.heap.size → some k ≠ v.ownBlock → some k ≠ v1.ownBlock := by
    intro k h1 h2 q
    rcases hloc with e | e
    · rw [e] at q; exact h2 q
    · rw [e] at q; cases q; omega
  have hlt : ∀ {y : Option Addr} {c : Nat} {D : List Int}, Bys w y c D → ∀ a, y = some a → D = [] ∨ a.block < w.heap.size := by
    intro y c D hb a ha
    rcases hb.2.2.2 with q | ⟨b, off, hx, hb', _⟩
    · exact Or.inl q
    · rw [hx] at ha; cases ha; exact Or.inr hb'
  refine ⟨L ++ [(r, z, t)], by rw [List.map_append, hL]; rfl, ?_, fun e he => ?_⟩
  · rw [List.length_append, List.flatMap_append, List.flatMap_cons, List.flatMap_nil, List.append_nil]
    exact hown1
  · rcases List.mem_append.1 he with he | he
    · obtain ⟨k3, k4, k5⟩ := hin e he
      refine ⟨k3.kept hgrow1 (fun a ha => (k5 a ha).2), k4, fun a ha => ⟨(k5 a ha).1, ?_⟩⟩
      rcases (k5 a ha).2 with q | q
      · exact Or.inl q
      · exact (hlt k3 a ha).imp_right (fun l => hne _ l q)
    · rw [List.mem_singleton.1 he]
      refine ⟨h2.kept hgrow1 (fun a ha => (h5 a ha).2), h3, fun a ha => ⟨(h5 a ha).1, ?_⟩⟩
      rcases (h5 a ha).2 with q | q
      · exact Or.inl q
      · exact (hlt h2 a ha).imp_right (fun l => hne _ l q)

theorem orow_ops {w : World} {B : Nat} {v : Value} {os : List On} (h : ORow w B v os) (hl : os.length ≤ 5000000000000) : ∃ x c, v = .slice x os.length c ∧ Ops w B x c os := by
  obtain ⟨L, hL, hown, hin⟩ := h
  have hLl : L.length = os.length := by rw [← hL, List.length_map]
  obtain ⟨_, h3⟩ := hown
  rcases h3 with ⟨rfl, h4⟩ | ⟨g, cap, cur, rfl, hgB, hh, hn, _, hs, ht⟩
  · have : os = [] := List.length_eq_zero_iff.1 (by omega)
    subst this
    exact ⟨none, 0, rfl, Ops.nil w B none 0⟩
  · refine ⟨_, cap, by rw [hLl], by omega, hl, Or.inr ⟨g, 0, rfl, ?_, hgB, fun i hi => ?_⟩⟩
    · rcases Nat.lt_or_ge g w.heap.size with q | q
      · exact q
      · rw [Array.getElem?_eq_none q] at hh; simp at hh
    · have hi' : i < L.length := by omega
      obtain ⟨e1, e2⟩ := ocells_at hi'
      have hoi : os[i] = L[i].1 := by simp [← hL]
      rw [hoi]
      obtain ⟨k3, k4, k5⟩ := hin L[i] (List.getElem_mem hi')
      have ec : ∀ j, j < L.length * 2 → w.cell? ⟨g, 0 + j, none⟩ = (L.flatMap ocells)[j]? := by
        intro j hj
        rw [Nat.zero_add]
        simp only [World.cell?, hh]
        rw [← ht, List.getElem?_take, if_pos hj]
        simp
      refine ⟨L[i].2.1, L[i].2.2, ?_, ?_, k3, k4, fun a ha => (k5 a ha).1⟩
      · rw [ec _ (by omega), e1]
      · rw [show 0 + i * 2 + 1 = 0 + (i * 2 + 1) by omega, ec _ (by omega), e2]

/-- What optionsOf answers. -/
def OptsP (D : List Int) (w : World) (e : Ending) (w' : World) : Prop :=
  (parseO D = none ∧ e = .returned (.tuple #[.slice none 0 0, .iface 29 (.int .i64 1)]) ∧ Below w.heap.size w w') ∨
  (∃ os x c, parseO D = some os ∧ e = .returned (.tuple #[.slice x os.length c, .nilIface]) ∧ Ops w' w.heap.size x c os ∧ Below w.heap.size w w')

/-- Where the loop of optionsOf is: these bytes are left, these options are read. -/
def OState (D ms : List Int) (acc : List On) : Prop := parseO D = (parseO ms).map (acc ++ ·)
theorem ostate_start (D : List Int) : OState D D [] := by unfold OState; cases parseO D <;> simp
theorem ostate_short {D ms : List Int} {acc : List On} (h : OState D ms acc) (h0 : ms ≠ []) (h1 : ms.length < 4) : parseO D = none := by
  unfold OState at h; rw [h, parseO_step h0, if_pos h1]; rfl
theorem ostate_torn {D ms : List Int} {acc : List On} {N : Nat} (h : OState D ms acc) (h0 : ms ≠ []) (h1 : ¬ ms.length < 4) (hN : (numN (Nm.cut ms 2 2)).toNat = N) (h2 : ms.length < 4 + N) : parseO D = none := by
  subst hN; unfold OState at h; rw [h, parseO_step h0, if_neg h1, if_pos h2]; rfl
theorem ostate_next {D ms : List Int} {acc : List On} {N : Nat} (h : OState D ms acc) (h0 : ms ≠ []) (h1 : ¬ ms.length < 4) (hN : (numN (Nm.cut ms 2 2)).toNat = N) (h2 : ¬ ms.length < 4 + N) : OState D (ms.drop (4 + N)) (acc ++ [⟨numN (Nm.cut ms 0 2), Nm.cut ms 4 N⟩]) := by
  subst hN; unfold OState at h ⊢
  rw [h, parseO_step h0, if_neg h1, if_neg h2]
  cases parseO (ms.drop (4 + (numN (Nm.cut ms 2 2)).toNat)) <;> simp
theorem ostate_done {D : List Int} {acc : List On} (h : OState D [] acc) : parseO D = some acc := by
  unfold OState at h; rw [h, parseO_nil]; simp

/-- A slice's length. -/
def lenV : Value → Nat
  | .slice _ l _ => l
  | _ => 0

/-- A row of bytes, piece by piece: nothing left, or cells of a block. -/
theorem bys_drop {w : World} {b off c : Nat} {ms : List Int} (h : Bys w (some ⟨b, off, none⟩) c ms) {k : Nat} (hk : k ≤ ms.length) (hne : ms ≠ []) : Bys w (some ⟨b, off + k, none⟩) (c - k) (ms.drop k) := by
  obtain ⟨h1, h2, h3, h4⟩ := h
  refine ⟨by rw [List.length_drop]; omega, by rw [List.length_drop]; omega, fun x hx => h3 x (List.mem_of_mem_drop hx), ?_⟩
  rcases h4 with h4 | ⟨b', off', e, hb, hc⟩
  · exact absurd h4 hne
  · cases e
    refine Or.inr ⟨b, off + k, rfl, hb, fun i hi => ?_⟩
    rw [List.length_drop] at hi
    rw [show off + k + i = off + (k + i) by omega, hc (k + i) (by omega)]
    simp [List.getD_eq_getElem?_getD, List.getElem?_drop]

theorem wp_append_copy {w : World} {o : Oper} {a : Act} {K : Act → World → Prop} {Q : Exit → Act → World → Prop} (hgd : o.guard = none) (x : Operand)
    (ho : o.op = .call { callee := .builtin .append, args := #[.const (.slice none 0 0), x], argTypes := #[22, 22] }) (ad : Addr) (m c : Nat) (D : List Int) (hm : D.length = m) (hx : a.eval x = .slice (some ad) m c)
    (hn : ∀ j u, (D.map (Value.int .u8))[j]? = some u → w.cell? (ad.add j) = some u) (hl : D.length ≤ 200000000000000) (hb : ∀ b ∈ D, 0 ≤ b ∧ b ≤ 255)
    (h : ∀ z r w', Bys w' z r D → (z = none → r = 0) → (∀ p, z = some p → w.heap.size ≤ p.block) → Below w.heap.size w w' → K (a.put o.dst (.slice z m r)) w') : o.wp Tryd.prog a w K Q := by
  have := step_append_copy (ops := #[]) (E := True) (Q := Q) hgd x ho ad m c D hm hx hn hl hb h
  rwa [if_pos (by simp [Region.wanted, hgd])] at this

set_option maxHeartbeats 8000000 in
set_option maxRecDepth 100000 in
theorem optionsOf_any {x : Option Addr} {c l : Nat} (D : List Int) (w : World) (h : Bys w x c D) (hl : D.length = l) (hD : D.length ≤ 100000000) :
    Calls Tryd.prog 72 #[.slice x l c] w (OptsP D w) := by
  subst hl
  go_enter Tryd.func72, Tryd.ntmps72
  go_wp2_with fail
  go_loopw [0, 4] (fun vb vo wr => ∃ (y : Option Addr) (cy : Nat) (ms : List Int) (acc : List On), vb = .slice y ms.length cy ∧ Bys w y cy ms ∧ ms.length ≤ 100000000 ∧ acc.length + ms.length ≤ 100000000 ∧ OState D ms acc ∧ ORow wr w.heap.size vo acc ∧ Below w.heap.size w wr) (fun vb _ _ => lenV vb)
  case atStart => exact ⟨x, c, D, [], rfl, h, hD, by simpa using hD, ostate_start D, ORow.nil _ _, Below.refl _ _⟩
  case round =>
    obtain ⟨y, cy, ms, acc, rfl, hy, hml, hal, hst, hrow, hbel⟩ := hrel
    by_cases c0 : ms = []
    · subst c0
      have hp := ostate_done hst
      obtain ⟨z, cz, rfl, hz⟩ := orow_ops hrow (by simp at hal; omega)
      have HP := hid hp
      clear hp hst hrow
      go_wp2_with fail
      go_ret2
      exact Or.inr ⟨acc, z, cz, HP.out, rfl, hz, hbel⟩
    · have hpos : 0 < ms.length := by cases ms with | nil => exact absurd rfl c0 | cons => simp
      have i0 : (0 : Int) < (ms.length : Int) := by omega
      have HST := hid hst
      have HROW := hid hrow
      have HB := hid hbel
      have HNE := hid c0
      by_cases c1 : ms.length < 4
      · have i1 : (ms.length : Int) < 4 := by omega
        have hp := hid (ostate_short hst c0 c1)
        clear hst hrow c0 hbel
        go_wp2_with fail
        go_ret2
        exact Or.inl ⟨hp.out, rfl, HB.out⟩
      · have i1 : ¬ (ms.length : Int) < 4 := by omega
        rcases hy.2.2.2 with e | ⟨b, off, rfl, hblt, hq⟩
        · exact absurd e c0
        have hcap : ms.length ≤ cy := hy.1
        have hcl : cy ≥ 4 := by omega
        obtain ⟨n1, n2⟩ := num_cut_two hy.2.2.1 (i := 2) (by omega : 2 + 2 ≤ ms.length)
        obtain ⟨N, hN⟩ : ∃ N : Nat, (numN (Nm.cut ms 2 2)).toNat = N := ⟨_, rfl⟩
        have hN2 : numN (Nm.cut ms 2 2) = (N : Int) := by omega
        have hNb : N ≤ 65535 := by omega
        have P2 := hid ((bys_sub hblt hcap (by omega) hy.2.2.1 hq 2 2 (by omega)).below hbel)
        have HY := hid hy
        have HN2 := hid hN2
        clear hN2 n1 n2 hst hrow c0 hbel
        go_wp2_with fail
        refine (number_at (N : Int) (Nm.cut ms 2 2) wr P2.out (Nm.cut_length (by omega)) (by rw [Nm.cut_length (by omega)]; decide) HN2.out).mono ?_
        rintro e w1 ⟨rfl, rfl⟩
        by_cases c2 : ms.length < 4 + N
        · have i2 : (ms.length : Int) < 4 + (N : Int) := by omega
          have hp := hid (ostate_torn HST.out HNE.out c1 hN c2)
          clear hN
          go_wp2_with fail
          go_ret2
          exact Or.inl ⟨hp.out, rfl, HB.out⟩
        · have i2 : ¬ (ms.length : Int) < 4 + (N : Int) := by omega
          have HNX := hid (ostate_next HST.out HNE.out c1 hN c2)
          clear hN
          have hne : Nonempty (Keep []) := ⟨⟨wr, by simp⟩⟩
          have j1 : (2 : Int) ≤ (cy : Int) := by omega
          have j2 : (4 : Int) + (N : Int) ≤ (cy : Int) := by omega
          have j3 : (4 : Int) ≤ 4 + (N : Int) := by omega
          have j4 : (4 : Int) ≤ (cy : Int) := by omega
          go_wp2_with fail
          refine wp_region_pick [0, 1, 2, 4, 5, 6] [3, 7, 8, 9, 10, 11] (fun u => ∃ s : Keep [], u = s.val) (by kernel_rfl) (by kernel_rfl) (by kernel_rfl) ⟨⟨_, by simp⟩, rfl⟩ ?_
          change wpQuiet _ _ _ _ [_, _, _, _, _, _] _
          repeat (go_big_quiet_step (fail))
          refine wpQuiet_nil ?_
          change rowL _ _ _ 11 [(3, _), (7, _), (8, _), (9, _), (10, _), (11, _)] _ _
          obtain ⟨ad, had, hcells⟩ : ∃ ad, (if cy = 4 then some (⟨b, off, none⟩ : Addr) else some ⟨b, off + 4, none⟩) = some ad ∧ ∀ j u, ((Nm.cut ms 4 N).map (Value.int .u8))[j]? = some u → wr.cell? (ad.add j) = some u := by
            have hc := bys_sub hblt hcap (by omega) HY.out.2.2.1 hq 4 N (by omega)
            by_cases c4 : cy = 4
            · refine ⟨_, if_pos c4, fun j u hj => ?_⟩
              have : N = 0 := by omega
              subst this
              simp [Nm.cut] at hj
            · refine ⟨_, if_neg c4, fun j u hj => ?_⟩
              have hjl : j < (Nm.cut ms 4 N).length := by
                rcases Nat.lt_or_ge j (Nm.cut ms 4 N).length with q | q
                · exact q
                · rw [List.getElem?_eq_none (by simpa using q)] at hj; cases hj
              rcases (hc.below HB.out |>.2.2.2) with q | ⟨b', o', e, _, hcc⟩
              · rw [q] at hjl; simp at hjl
              · cases e
                rw [Go.WideShapes.add_plain, hcc j hjl]
                rw [List.getElem?_map, List.getElem?_eq_getElem hjl] at hj
                simp only [Option.map_some, Option.some.injEq] at hj
                rw [← hj, List.getD_eq_getElem?_getD, List.getElem?_eq_getElem hjl]
                rfl
          have P1 : Bys wr.drew (some ⟨b, off, none⟩) cy (Nm.cut ms 0 2) := by
            have := ((bys_sub hblt hcap (by omega) HY.out.2.2.1 hq 0 2 (by omega)).below HB.out).below ((Below.refl _ wr).drew)
            simpa using this
          have cutb : ∀ x ∈ Nm.cut ms 4 N, 0 ≤ x ∧ x ≤ 255 := fun x hx => HY.out.2.2.1 x (by unfold Nm.cut at hx; exact List.mem_of_mem_drop (List.mem_of_mem_take hx))
          have cutl : (Nm.cut ms 4 N).length = N := Nm.cut_length (by omega)
          have P1' := hid P1
          have HCE := hid hcells
          have HCB := hid cutb
          have HCL := hid cutl
          have hob : ∀ q, Value.ownBlock _ = some q → q < wr.heap.size := fun q hq' => (World.ownsRow.lt HROW.out.choose_spec.2.1 q hq').2
          have HOB := hid hob
          rw [had]
          clear P1 hcells cutb cutl hob had
          refine rowL_step fun K Q' hK => ?_
          go_simp
          refine (number_at _ (Nm.cut ms 0 2) _ P1'.out (Nm.cut_length (by omega)) (by rw [Nm.cut_length (by omega)]; decide) rfl).mono ?_
          rintro e w2 ⟨rfl, rfl⟩
          refine hK _ _ (fun _ => ⟨⟨_, by simp⟩, rfl⟩) ?_
          clear hK
          refine rowL_step fun K Q' hK => ?_
          refine wp_append_copy rfl (.tmp 28) rfl ad N (cy - 4) (Nm.cut ms 4 N) HCL.out rfl HCE.out (by rw [HCL.out]; omega) HCB.out ?_
          intro z r w2 hz hzr hzf hb2
          refine hK _ _ (fun _ => ⟨⟨_, by simp⟩, rfl⟩) ?_
          clear hK
          refine rowL_step fun K Q' hK => ?_
          go_simp
          refine hK _ _ (fun _ => ⟨⟨_, by simp⟩, rfl⟩) ?_
          clear hK
          refine rowL_step fun K Q' hK => ?_
          go_simp
          refine hK _ _ (fun _ => ⟨⟨_, by simp⟩, rfl⟩) ?_
          clear hK
          have hbw : Below wr.heap.size wr w2 := ((Below.refl wr.heap.size wr).drew).trans hb2
          have hbx : Below wr.heap.size wr (w2.alloc (.cells #[.int .i64 (numN (Nm.cut ms 0 2)), .slice z N r] 108)) := hbw.alloc hbw.size _
          have hby := grown_on HB.out hbx
          have hkb : Bl 108 (w2.alloc (.cells #[.int .i64 (numN (Nm.cut ms 0 2)), .slice z N r] 108)) w2.heap.size #[.int .i64 (numN (Nm.cut ms 0 2)), .slice z (Nm.cut ms 4 N).length r] := by
            rw [HCL.out]; exact Bl.new 108 w2 _
          have hz2 := hz.below ((Below.refl w2.heap.size w2).alloc (Nat.le_refl _) (.cells #[.int .i64 (numN (Nm.cut ms 0 2)), .slice z N r] 108))
          refine rowL_step fun K Q' hK => ?_
          refine wp_append_orow (B := w.heap.size) (g := w2.heap.size) (cc := 1) (os := acc) (r := ⟨numN (Nm.cut ms 0 2), Nm.cut ms 4 N⟩) (z := z) (t := r) (.tmp 22) (.tmp 31) rfl rfl rfl (HROW.out.below hbx) hkb hz2 hzr
            (fun p hp => ⟨Nat.le_trans HB.out.size (hzf p hp), Or.inr (fun q => by have := HOB.out _ q.symm; have := hzf p hp; simp at this; omega)⟩) (by omega) hby.size ?_
          intro v3 w3 hrow3 hg3
          have HR3 := hid hrow3
          have B3 := hid (hby.grown hg3 hby.size (fun k hk => (World.ownsRow.lt (HROW.out.below hbx).choose_spec.2.1 k hk).1))
          refine hK _ _ (fun _ => ⟨⟨_, by simp⟩, rfl⟩) ?_
          clear hK hrow3 hg3 hkb hz2 hz hbw hbx hby hb2 hzf hzr
          refine rowL_step fun K Q' hK => ?_
          go_simp
          refine hK _ _ (fun _ => ⟨⟨_, by simp⟩, rfl⟩) ?_
          clear hK
          refine rowL_nil ?_
          obtain ⟨ad2, cy2, had2, hy2⟩ : ∃ ad2 : Option Addr, ∃ cy2, ((if cy = 4 + N then some (⟨b, off, none⟩ : Addr) else some ⟨b, off + (4 + N), none⟩) = ad2 ∧ cy - (4 + N) = cy2) ∧ Bys w ad2 cy2 (ms.drop (4 + N)) := by
            by_cases c4 : cy = 4 + N
            · refine ⟨_, _, ⟨if_pos c4, rfl⟩, ?_⟩
              rw [List.drop_eq_nil_of_le (by omega)]
              exact Bys.nil w _ _
            · refine ⟨_, _, ⟨if_neg c4, rfl⟩, ?_⟩
              exact bys_drop HY.out (by omega) HNE.out
          have HA2 := hid had2
          have HY2 := hid hy2
          clear had2 hy2
          go_wp2_with fail
          refine ⟨⟨ad2, cy2, ms.drop (4 + N), acc ++ [⟨numN (Nm.cut ms 0 2), Nm.cut ms 4 N⟩], ?_, HY2.out, by rw [List.length_drop]; omega, by rw [List.length_drop, List.length_append, List.length_singleton]; omega, HNX.out, HR3.out, B3.out⟩, ?_⟩
          · rw [HA2.out.1, HA2.out.2, List.length_drop]
          · show ms.length - (4 + N) < ms.length
            omega

end Go.Proofs.YtpmbbaacpnooeaaDoor

namespace Go.Proofs.YtpmbbaacpnooeaaDoor
open Go.RowKit Go.Deep

/-- The record's numbers may be. -/
def RecIn (r : Rn) : Prop := r.N = [] ∧ (0 ≤ r.cl ∧ r.cl ≤ 65535) ∧ (0 ≤ r.ttl ∧ r.ttl ≤ 4294967295)
instance (r : Rn) : Decidable (RecIn r) := by unfold RecIn; infer_instance

/-- What a record tells. -/
def recO (r : Rn) : Option Ot := if RecIn r then (parseO r.D).map (fun os => ⟨r.cl, r.ttl / 16777216, r.ttl / 65536 % 256, decide (r.ttl / 32768 % 2 = 1), r.ttl % 32768, os⟩) else none

theorem recO_out {r : Rn} (h : ¬ RecIn r) : recO r = none := by unfold recO; rw [if_neg h]
theorem recO_torn {r : Rn} (h : parseO r.D = none) : recO r = none := by unfold recO; rw [h]; split <;> rfl
theorem recO_good {r : Rn} {os : List On} (h : RecIn r) (hp : parseO r.D = some os) : recO r = some ⟨r.cl, r.ttl / 16777216, r.ttl / 65536 % 256, decide (r.ttl / 32768 % 2 = 1), r.ttl % 32768, os⟩ := by unfold recO; rw [if_pos h, hp]; rfl

/-- What is put is told. -/
theorem recO_otR {o : Ot} (h : otE o = 0) : recO (otR o) = some o := by
  unfold otE at h
  by_cases c : OtIn o
  · rw [if_neg (by simpa using c)] at h
    have hE : optE o.os = 0 := by
      unfold dataE at h
      by_cases c1 : optE o.os = 0
      · exact c1
      · rw [if_pos c1] at h; exact absurd h c1
    obtain ⟨⟨a1, a2⟩, ⟨a3, a4⟩, ⟨a5, a6⟩, ⟨a7, a8⟩⟩ := c
    have ht : 0 ≤ ttlN o ∧ ttlN o ≤ 4294967295 := by unfold ttlN; cases o.dO <;> simp <;> omega
    rw [recO_good (r := otR o) ⟨rfl, ⟨a1, a2⟩, ht⟩ (parseO_of hE)]
    obtain ⟨size, code, ver, dO, z, os⟩ := o
    simp only [otR, ttlN] at *
    congr 1
    have : (if dO = true then (32768 : Int) else 0) = 32768 * (if dO = true then 1 else 0) := by cases dO <;> rfl
    cases dO
    · simp only [Bool.false_eq_true, if_false] at *
      congr 1 <;> first | rfl | omega | (exact decide_eq_false (by omega))
    · simp only [if_true] at *
      congr 1 <;> first | rfl | omega | (exact decide_eq_true (by omega))
  · rw [if_pos c] at h; cases h

theorem results_optof (tmps : Array Value) (w : World) (b : Nat) (v0 v1 v2 v3 v4 v5 : Value) (hp : tmps.getD 2 undef = .pointer (some ⟨b, 0, none⟩)) (hb : Bl 46 w b #[v0, v1, v2, v3, v4, v5]) :
    (results Tryd.f49 tmps).run Tryd.prog w = .ok (.tuple #[.agg #[v0, v1, v2, v3, v4, v5], tmps.getD 3 undef]) w := by
  have c0 : w.cell? ⟨b, 0, none⟩ = some v0 := hb.cell (i := 0) rfl
  have c1 : w.cell? ⟨b, 1, none⟩ = some v1 := hb.cell (i := 1) rfl
  have c2 : w.cell? ⟨b, 2, none⟩ = some v2 := hb.cell (i := 2) rfl
  have c3 : w.cell? ⟨b, 3, none⟩ = some v3 := hb.cell (i := 3) rfl
  have c4 : w.cell? ⟨b, 4, none⟩ = some v4 := hb.cell (i := 4) rfl
  have c5 : w.cell? ⟨b, 5, none⟩ = some v5 := hb.cell (i := 5) rfl
  have hp' : tmps[2]?.getD undef = .pointer (some ⟨b, 0, none⟩) := by simpa using hp
  simp [results, Tryd.results49, go_sem, hp', c0, c1, c2, c3, c4, c5]

/-- What optOf answers. -/
def OptPost (r : Rn) (w : World) (e : Ending) (w' : World) : Prop :=
  (recO r = none ∧ e = .returned (.tuple #[.agg #[.int .i64 0, .int .i64 0, .int .i64 0, .bool false, .int .i64 0, .slice none 0 0], .iface 29 (.int .i64 1)]) ∧ Below w.heap.size w w') ∨
  (∃ o x c, recO r = some o ∧ e = .returned (.tuple #[.agg #[.int .i64 o.size, .int .i64 o.code, .int .i64 o.ver, .bool o.dO, .int .i64 o.z, .slice x o.os.length c], .nilIface]) ∧ Ops w' w.heap.size x c o.os ∧ Below w.heap.size w w')

theorem Bl.put6 {t : TypeId} {w : World} {b : Nat} {u0 u1 u2 u3 u4 u5 : Value} (h : Bl t w b #[u0, u1, u2, u3, u4, u5]) (v0 v1 v2 v3 v4 v5 : Value) :
    Bl t ((((((w.setCell ⟨b, 0, none⟩ v0).setCell ⟨b, 1, none⟩ v1).setCell ⟨b, 2, none⟩ v2).setCell ⟨b, 3, none⟩ v3).setCell ⟨b, 4, none⟩ v4).setCell ⟨b, 5, none⟩ v5) b #[v0, v1, v2, v3, v4, v5] := by
  have h0 := h.set 0 v0
  have h1 : Bl t _ b #[v0, v1, u2, u3, u4, u5] := Bl.set (show Bl t _ b #[v0, u1, u2, u3, u4, u5] from h0) 1 v1
  have h2 : Bl t _ b #[v0, v1, v2, u3, u4, u5] := Bl.set h1 2 v2
  have h3 : Bl t _ b #[v0, v1, v2, v3, u4, u5] := Bl.set h2 3 v3
  have h4 : Bl t _ b #[v0, v1, v2, v3, v4, u5] := Bl.set h3 4 v4
  exact Bl.set h4 5 v5
theorem below_put6 {B : Nat} {w w' : World} {b : Nat} (k : Below B w w') (hb : B ≤ b) (v0 v1 v2 v3 v4 v5 : Value) :
    Below B w ((((((w'.setCell ⟨b, 0, none⟩ v0).setCell ⟨b, 1, none⟩ v1).setCell ⟨b, 2, none⟩ v2).setCell ⟨b, 3, none⟩ v3).setCell ⟨b, 4, none⟩ v4).setCell ⟨b, 5, none⟩ v5) :=
  (below_put5 k hb v0 v1 v2 v3 v4).setCell hb v5
theorem bys_put {w : World} {B : Nat} {x : Option Addr} {c : Nat} {D : List Int} (h : Bys w x c D) (hx : ∀ p, x = some p → B ≤ p.block) {a : Addr} (ha : a.block < B) (v : Value) : Bys (w.setCell a v) x c D := by
  obtain ⟨h1, h2, h3, h4⟩ := h
  refine ⟨h1, h2, h3, ?_⟩
  rcases h4 with h4 | ⟨b, off, rfl, hb, hc⟩
  · exact Or.inl h4
  · have hB := hx _ rfl
    refine Or.inr ⟨b, off, rfl, by have := (KeepsWalks.setCell w a v).size; omega, fun i hi => ?_⟩
    refine (World.cell?_setCell_other w a ⟨b, off + i, none⟩ v (fun e => ?_)).trans (hc i hi)
    rw [e] at ha; simp at ha hB; omega
theorem Ops.put {w : World} {B : Nat} {x : Option Addr} {c : Nat} {os : List On} (h : Ops w B x c os) {a : Addr} (ha : a.block < B) (v : Value) : Ops (w.setCell a v) B x c os := by
  obtain ⟨h1, h2, h3⟩ := h
  refine ⟨h1, h2, ?_⟩
  rcases h3 with h3 | ⟨b, off, hx, hb, hB, hc⟩
  · exact Or.inl h3
  · refine Or.inr ⟨b, off, hx, by have := (KeepsWalks.setCell w a v).size; omega, hB, fun i hi => ?_⟩
    obtain ⟨z, t, q1, q2, q3, q4, q5⟩ := hc i hi
    have ne : ∀ o, a ≠ ⟨b, o, none⟩ := fun o e => by rw [e] at ha; simp at ha; omega
    exact ⟨z, t, (World.cell?_setCell_other w a _ v (ne _)).trans q1, (World.cell?_setCell_other w a _ v (ne _)).trans q2, bys_put q3 q5 ha v, q4, q5⟩
theorem Ops.base {w : World} {B B' : Nat} {x : Option Addr} {c : Nat} {os : List On} (h : Ops w B x c os) (hb : B' ≤ B) : Ops w B' x c os := by
  obtain ⟨h1, h2, h3⟩ := h
  refine ⟨h1, h2, ?_⟩
  rcases h3 with h3 | ⟨b, off, hx, hb', hB, hc⟩
  · exact Or.inl h3
  · refine Or.inr ⟨b, off, hx, hb', by omega, fun i hi => ?_⟩
    obtain ⟨z, t, q1, q2, q3, q4, q5⟩ := hc i hi
    exact ⟨z, t, q1, q2, q3, q4, fun a ha => Nat.le_trans hb (q5 a ha)⟩
theorem Ops.put6 {w : World} {B b : Nat} {x : Option Addr} {c : Nat} {os : List On} (h : Ops w B x c os) (hb : b < B) (v0 v1 v2 v3 v4 v5 : Value) :
    Ops ((((((w.setCell ⟨b, 0, none⟩ v0).setCell ⟨b, 1, none⟩ v1).setCell ⟨b, 2, none⟩ v2).setCell ⟨b, 3, none⟩ v3).setCell ⟨b, 4, none⟩ v4).setCell ⟨b, 5, none⟩ v5) B x c os :=
  (((((h.put hb _).put hb _).put hb _).put hb _).put hb _).put hb _

theorem ttl_masks {t : Int} (h0 : 0 ≤ t) (h1 : t ≤ 4294967295) : bits .and .i64 (t / 65536) 255 = t / 65536 % 256 ∧ bits .and .i64 (t / 32768) 1 = t / 32768 % 2 ∧ bits .and .i64 t 32767 = t % 32768 :=
  ⟨bits_mask .i64 62 (by decide) wrap_i64 8 (by decide) _ (by omega) (by omega), bits_mask .i64 62 (by decide) wrap_i64 1 (by decide) _ (by omega) (by omega), bits_mask .i64 62 (by decide) wrap_i64 15 (by decide) _ (by omega) (by omega)⟩

set_option maxHeartbeats 4000000 in
set_option maxRecDepth 100000 in
theorem optOf_bad {y z : Option Addr} {nN s t : Nat} (r : Rn) (w : World) (hn : r.N.length = nN) (h : ¬ RecIn r) :
    Calls Tryd.prog 49 #[.agg #[.slice y nN s, .int .i64 r.ty, .int .i64 r.cl, .int .i64 r.ttl, .slice z r.D.length t]] w (OptPost r w) := by
  obtain ⟨k1, k2, k3⟩ := Bl.two 69 46 w #[.slice y nN s, .int .i64 r.ty, .int .i64 r.cl, .int .i64 r.ttl, .slice z r.D.length t] #[.int .i64 0, .int .i64 0, .int .i64 0, .bool false, .int .i64 0, .slice none 0 0]
  have K2 := hid k2
  have K3 := hid k3
  clear k1 k2 k3
  have HO := hid (recO_out h)
  rcases Nat.eq_zero_or_pos nN with c0 | c0
  · subst c0
    have e0 : r.N = [] := List.length_eq_zero_iff.1 hn
    clear hn
    by_cases c1 : 0 ≤ r.cl ∧ r.cl ≤ 65535
    · have c2 : ¬ (0 ≤ r.ttl ∧ r.ttl ≤ 4294967295) := fun q => h ⟨e0, c1, q⟩
      clear h e0
      go_enter Tryd.func49, Tryd.ntmps49
      go_wp2_with fail
      refine (rfits_at true r.cl 65535 _ (by simpa using c1)).mono ?_
      rintro e w1 ⟨rfl, rfl⟩
      go_wp2_with fail
      refine (rfits_at false r.ttl 4294967295 _ (by simpa using c2)).mono ?_
      rintro e w1 ⟨rfl, rfl⟩
      go_wp2_with fail
      refine bodyPost_ret (results_optof _ _ (w.heap.size + 1) _ _ _ _ _ _ rfl K2.out) rfl ?_
      exact Or.inl ⟨HO.out, rfl, K3.out⟩
    · clear h e0
      go_enter Tryd.func49, Tryd.ntmps49
      go_wp2_with fail
      refine (rfits_at false r.cl 65535 _ (by simpa using c1)).mono ?_
      rintro e w1 ⟨rfl, rfl⟩
      go_wp2_with fail
      refine bodyPost_ret (results_optof _ _ (w.heap.size + 1) _ _ _ _ _ _ rfl K2.out) rfl ?_
      exact Or.inl ⟨HO.out, rfl, K3.out⟩
  · obtain ⟨q, rfl⟩ : ∃ q, nN = q + 1 := ⟨nN - 1, by omega⟩
    clear h c0 hn
    have p0 : (0 : Int) < (q : Int) + 1 := by omega
    go_enter Tryd.func49, Tryd.ntmps49
    go_wp2_with fail
    refine bodyPost_ret (results_optof _ _ (w.heap.size + 1) _ _ _ _ _ _ rfl K2.out) rfl ?_
    exact Or.inl ⟨HO.out, rfl, K3.out⟩

set_option maxHeartbeats 4000000 in
set_option maxRecDepth 100000 in
theorem optOf_in {y z : Option Addr} {s t : Nat} (r : Rn) (w : World) (h : RecIn r) (hD : Bys w z t r.D) (hl : r.D.length ≤ 100000000) :
    Calls Tryd.prog 49 #[.agg #[.slice y 0 s, .int .i64 r.ty, .int .i64 r.cl, .int .i64 r.ttl, .slice z r.D.length t]] w (OptPost r w) := by
  obtain ⟨k1, k2, k3⟩ := Bl.two 69 46 w #[.slice y 0 s, .int .i64 r.ty, .int .i64 r.cl, .int .i64 r.ttl, .slice z r.D.length t] #[.int .i64 0, .int .i64 0, .int .i64 0, .bool false, .int .i64 0, .slice none 0 0]
  have K1 := hid k1
  have K2 := hid k2
  have K3 := hid k3
  have HD := hid (hD.below k3)
  have HIN := hid h
  obtain ⟨_, c1, c2⟩ := h
  obtain ⟨b1, b2, b3⟩ := ttl_masks c2.1 c2.2
  clear k1 k2 k3 hD
  go_enter Tryd.func49, Tryd.ntmps49
  go_wp2_with fail
  refine (rfits_at true r.cl 65535 _ (by simpa using c1)).mono ?_
  rintro e w1 ⟨rfl, rfl⟩
  go_wp2_with fail
  refine (rfits_at true r.ttl 4294967295 _ (by simpa using c2)).mono ?_
  rintro e w1 ⟨rfl, rfl⟩
  go_wp2_with fail
  refine (optionsOf_any r.D _ HD.out rfl hl).mono ?_
  intro e w2 hpo
  have L2 := K2.out
  have L1 := K1.out
  rcases hpo with ⟨hp, rfl, d2⟩ | ⟨os, x2, c2', hp, rfl, o2, d2⟩
  all_goals
    have HP := hid hp
    have B2 := hid (grown_on K3.out d2)
    replace L2 := L2.below d2
    replace L1 := L1.below d2
    have f0 := L2.frozen 0
    have f1 := L2.frozen 1
    have f2 := L2.frozen 2
    have f3 := L2.frozen 3
    have f4 := L2.frozen 4
    have f5 := L2.frozen 5
    have g0 : w2.cell? ⟨w.heap.size + 1, 0, none⟩ = some (.int .i64 0) := L2.cell (i := 0) rfl
    have g1 : w2.cell? ⟨w.heap.size + 1, 1, none⟩ = some (.int .i64 0) := L2.cell (i := 1) rfl
    have g2 : w2.cell? ⟨w.heap.size + 1, 2, none⟩ = some (.int .i64 0) := L2.cell (i := 2) rfl
    have g3 : w2.cell? ⟨w.heap.size + 1, 3, none⟩ = some (.bool false) := L2.cell (i := 3) rfl
    have g4 : w2.cell? ⟨w.heap.size + 1, 4, none⟩ = some (.int .i64 0) := L2.cell (i := 4) rfl
    have g5 : w2.cell? ⟨w.heap.size + 1, 5, none⟩ = some (.slice none 0 0) := L2.cell (i := 5) rfl
    have e0 : w2.cell? ⟨w.heap.size, 0, none⟩ = some (.slice y 0 s) := L1.cell (i := 0) rfl
    have e1 : w2.cell? ⟨w.heap.size, 1, none⟩ = some (.int .i64 r.ty) := L1.cell (i := 1) rfl
    have e2 : w2.cell? ⟨w.heap.size, 2, none⟩ = some (.int .i64 r.cl) := L1.cell (i := 2) rfl
    have e3 : w2.cell? ⟨w.heap.size, 3, none⟩ = some (.int .i64 r.ttl) := L1.cell (i := 3) rfl
    have L3 := hid L2
    clear L1 L2 hp
  · clear d2
    go_wp2_with fail
    refine bodyPost_ret (results_optof _ _ (w.heap.size + 1) _ _ _ _ _ _ rfl (Bl.put6 L3.out _ _ _ _ _ _)) rfl ?_
    exact Or.inl ⟨recO_torn HP.out, rfl, below_put6 B2.out (by omega) _ _ _ _ _ _⟩
  · have O2 := hid o2
    clear d2 o2
    go_wp2_with fail
    refine bodyPost_ret (results_optof _ _ (w.heap.size + 1) _ _ _ _ _ _ rfl (Bl.put6 L3.out _ _ _ _ _ _)) rfl ?_
    refine Or.inr ⟨_, x2, c2', recO_good HIN.out HP.out, ?_, (Ops.put6 (B := (w.heap.size + 1) + 1) (by have := O2.out; simpa using this) (by omega) _ _ _ _ _ _).base (by omega), below_put6 B2.out (by omega) _ _ _ _ _ _⟩
    have hbq : (r.ttl / 32768 % 2 == 1) = decide (r.ttl / 32768 % 2 = 1) := by by_cases q : r.ttl / 32768 % 2 = 1 <;> simp [q]
    rw [← hbq]
    rfl

theorem optOf_any {y z : Option Addr} {nN s l t : Nat} (r : Rn) (w : World) (hn : r.N.length = nN) (hd : r.D.length = l) (hD : Bys w z t r.D) (hl : r.D.length ≤ 100000000) :
    Calls Tryd.prog 49 #[.agg #[.slice y nN s, .int .i64 r.ty, .int .i64 r.cl, .int .i64 r.ttl, .slice z l t]] w (OptPost r w) := by
  subst hd
  by_cases h : RecIn r
  · have : nN = 0 := by rw [← hn, h.1]; rfl
    subst this
    exact optOf_in r w h hD hl
  · exact optOf_bad r w hn h

end Go.Proofs.YtpmbbaacpnooeaaDoor
