/-
  The walk of the laws' own matches at two rules that are the same.
-/
import Derived.Test.YtdkpdlkcloaoeaaDoorRlTk
import Derived.Test.YtdkpdlkcloaoeaaDoorMsgBytes
import Derived.BigQuiet
namespace Go.Proofs.YtdkpdlkcloaoeaaDoor.Ru
open Go.RowKit Go.Deep

theorem Mats.all {w : World} {x : Option Addr} {c : Nat} {ms : List Mt} (h : Mats w x c ms) (hp : 0 < ms.length) : ∃ b off, x = some ⟨b, off, none⟩ ∧ b < w.heap.size ∧ ∀ i (hi : i < ms.length), MCell w b (off + i * 4) ms[i] := by
  rcases h.2.2.2 with q | q
  · rw [q] at hp; simp at hp
  · exact q

set_option maxHeartbeats 4000000 in
set_option maxRecDepth 100000 in
theorem matches_same {xa xb : Option Addr} {ca cb la lb : Nat} (ms : List Mt) (w : World) (ha : Mats w xa ca ms) (hb : Mats w xb cb ms) (hla : ms.length = la) (hlb : ms.length = lb) :
    Calls Tryd.prog 12 #[.slice xa la ca, .slice xb lb cb] w fun e w' => e = .returned (.bool true) ∧ Drawn w w' := by
  subst hla hlb
  have hlen := ha.2.1
  have HA := hid ha
  have HB := hid hb
  clear ha hb
  go_enter Tryd.func12, Tryd.ntmps12
  go_wp2
  go_loopw [5] (fun vi wr => ∃ k : Nat, k ≤ ms.length ∧ vi = .int .i64 (k : Int) ∧ Drawn w wr) (fun vi _ => ms.length - (intOf vi).toNat)
  case atStart => exact ⟨0, Nat.zero_le _, rfl, Drawn.refl _⟩
  case round =>
    obtain ⟨k, hk, rfl, hd⟩ := hrel
    have HD := hid hd
    clear hd
    by_cases ck : k < ms.length
    · have ck' : (k : Int) < (ms.length : Int) := by omega
      obtain ⟨b1, o1, rfl, hb1, qa⟩ := (HA.out.below (HD.out.below _)).all (by omega)
      obtain ⟨b2, o2, rfl, hb2, qb⟩ := (HB.out.below (HD.out.below _)).all (by omega)
      obtain ⟨y1, s1, z1, t1, p0, p1, p2, p3, pS, pB, _⟩ := qa k ck
      obtain ⟨y2, s2, z2, t2, q0, q1, q2, q3, qS, qB, _⟩ := qb k ck
      clear qa qb
      generalize ms[k] = m at *
      have CT := hid (fun (u : World) (hu : Drawn wr u) => texts_at true m.N m.N u (pS.below (hu.below _)) (qS.below (hu.below _)) rfl rfl (by simp))
      have CB := hid (fun (u : World) (hu : Drawn wr u) => (bytes_any _ _ _ _ m.A m.A u (pB.below (hu.below _)) (qB.below (hu.below _))))
      have hl1 : m.N.length ≤ 8796093022208 := pS.2.1
      have hl2 : m.A.length ≤ 200000000000000 := pB.2.1
      clear pS pB qS qB
      obtain ⟨op, n, N, A⟩ := m
      simp only at *
      go_wp2
      go_quiet ((go_at_call 22; exact Calls.quiet_of (CT.out _ ⟨_, rfl⟩)))
      have D1 := hid ((Drawn.refl wr).more nq)
      generalize wr.drewN nq = w1 at *
      replace p0 := (D1.out.cell _).trans p0
      replace p1 := (D1.out.cell _).trans p1
      replace p2 := (D1.out.cell _).trans p2
      replace p3 := (D1.out.cell _).trans p3
      replace q0 := (D1.out.cell _).trans q0
      replace q1 := (D1.out.cell _).trans q1
      replace q2 := (D1.out.cell _).trans q2
      replace q3 := (D1.out.cell _).trans q3
      go_wp2
      have CB2 := hid (fun (u : World) (hu : Drawn w1 u) => CB.out u (D1.out.trans hu))
      go_quiet ((go_at_call 23; exact Calls.quiet_of (CB2.out _ ⟨_, rfl⟩)))
      have D2 := hid (D1.out.trans ((Drawn.refl w1).more nq))
      have D3 := hid ((Drawn.refl w1).more nq)
      generalize w1.drewN nq = w2 at *
      replace p0 := (D3.out.cell _).trans p0
      replace p1 := (D3.out.cell _).trans p1
      replace q0 := (D3.out.cell _).trans q0
      replace q1 := (D3.out.cell _).trans q1
      clear p2 p3 q2 q3 CB CB2 CT D1 D3
      have eAA : decide (A = A) = true := by simp
      go_wp2
      go_quiet (fail)
      go_wp2
      go_roundw
      case rel => exact ⟨k + 1, by omega, by go_num, (HD.out.trans D2.out).more _⟩
      case measure => simp [intOf]; omega
    · have ck' : ¬ (k : Int) < (ms.length : Int) := by omega
      go_wp2
      go_ret
      exact ⟨rfl, HD.out⟩

end Go.Proofs.YtdkpdlkcloaoeaaDoor.Ru
