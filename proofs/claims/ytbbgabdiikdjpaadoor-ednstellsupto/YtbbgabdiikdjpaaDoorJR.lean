/-
  The walks of the document's own answers for names: Small, Numbers, Labels, Names, Below. They only read, and hand back what the plain functions tell. errors.As at the project's own kind of error, by a contract: an error of that kind is found, and its number is laid where the target points; four new blocks, nothing else has turned. Closed facts on the model's entries for the library's own small reflection, at this program's numbers. The walks of the document's own answers NameFault and Folded, and of Told and Error, by which errors are asked.
-/
import Derived.Test.YtbbgabdiikdjpaaDoorWalkA
import Derived.LaidEql
import Derived.Stop.Asserts
import Derived.RowKitTokens
import Derived.Test.YtbbgabdiikdjpaaDoorWalkB
namespace Go.Proofs.YtbbgabdiikdjpaaDoor
open Go.RowKit Go.Deep

theorem cmpI_less {x y : Int} (h : x < y) : Nm.cmpI x y = -1 := by unfold Nm.cmpI; rw [if_pos h]
theorem cmpI_more {x y : Int} (h : y < x) : Nm.cmpI x y = 1 := by unfold Nm.cmpI; rw [if_neg (by omega), if_pos h]
theorem cmpI_same {x y : Int} (h : ¬ x < y) (k : ¬ y < x) : Nm.cmpI x y = 0 := by unfold Nm.cmpI; rw [if_neg h, if_neg k]

/-- The last k labels are alike. -/
def TailTo (a b : List ByteArray) (k : Nat) : Prop := ∀ j, j < k → Nm.cL (a.getD (a.length - (j + 1)) ByteArray.empty) (b.getD (b.length - (j + 1)) ByteArray.empty) = 0

theorem getD_drop (a : List ByteArray) (d i : Nat) : (a.drop d).getD i ByteArray.empty = a.getD (d + i) ByteArray.empty := by
  simp [List.getD_eq_getElem?_getD, List.getElem?_drop]

theorem tail_iff {a b : List ByteArray} (h : b.length ≤ a.length) : Nm.under a b = true ↔ TailTo a b b.length := by
  rw [Nm.under_iff]
  constructor
  · rintro ⟨_, e⟩ j hj
    rw [Nm.cL_zero]
    have e2 : ((a.drop (a.length - b.length)).map Nm.fL)[b.length - (j + 1)]? = (b.map Nm.fL)[b.length - (j + 1)]? := by rw [e]
    rw [List.getElem?_map, List.getElem?_map, List.getElem?_drop, List.getElem?_eq_getElem (l := a) (by omega), List.getElem?_eq_getElem (l := b) (by omega)] at e2
    have e3 := Option.some.inj e2
    rw [List.getD_eq_getElem?_getD, List.getD_eq_getElem?_getD, List.getElem?_eq_getElem (l := a) (by omega), List.getElem?_eq_getElem (l := b) (by omega)]
    simp only [Option.getD_some]
    have e4 : a.length - b.length + (b.length - (j + 1)) = a.length - (j + 1) := by omega
    simp only [e4] at e3
    exact e3
  · intro t
    refine ⟨h, ?_⟩
    apply List.ext_getElem
    · simp; omega
    · intro i h1 h2
      rw [List.length_map] at h2
      have := (Nm.cL_zero _ _).1 (t (b.length - (i + 1)) (by omega))
      have e1 : b.length - (b.length - (i + 1) + 1) = i := by omega
      have e2 : a.length - (b.length - (i + 1) + 1) = a.length - b.length + i := by omega
      rw [e1, e2, List.getD_eq_getElem?_getD, List.getD_eq_getElem?_getD, List.getElem?_eq_getElem (l := a) (by omega), List.getElem?_eq_getElem (l := b) h2] at this
      simp only [Option.getD_some] at this
      simpa using this

theorem tail_next {a b : List ByteArray} {k : Nat} (h : TailTo a b k) (e : Nm.cL (a.getD (a.length - (k + 1)) ByteArray.empty) (b.getD (b.length - (k + 1)) ByteArray.empty) = 0) : TailTo a b (k + 1) := by
  intro j hj
  by_cases q : j = k
  · subst q; exact e
  · exact h j (by omega)

theorem tail_not {a b : List ByteArray} {k : Nat} (hl : b.length ≤ a.length) (hk : k < b.length) (e : ¬ Nm.cL (a.getD (a.length - (k + 1)) ByteArray.empty) (b.getD (b.length - (k + 1)) ByteArray.empty) = 0) : false = Nm.under a b := by
  cases q : Nm.under a b
  · rfl
  · exact absurd ((tail_iff hl).1 q k hk) e

theorem tail_all {a b : List ByteArray} {k : Nat} (hl : b.length ≤ a.length) (hk : k = b.length) (h : TailTo a b k) : true = Nm.under a b := by
  subst hk; exact ((tail_iff hl).2 h).symm

end Go.Proofs.YtbbgabdiikdjpaaDoor

namespace Go.Proofs.YtbbgabdiikdjpaaDoor
open Go.RowKit Go.Extern.Stop Go.Stop Go.Extern

theorem As.valueOfP (t : Addr) (w : World) : (ReflectliteValue.unpack (.iface 126 (.pointer (some t)))).run Tryd.prog w
    = .ok (.agg #[.pointer (some ⟨1, 126, none⟩), .pointer (some ⟨w.heap.size, 0, none⟩), .int .u64 150]) (w.alloc (.cells #[.pointer (some t)] 126)) := by kernel_rfl
theorem As.typeP (a : Addr) (w : World) : (ReflectliteValue.methodAny (ReflectliteValue.valueError "reflectlite.Value.Type" 0) (fun t _ _ _ => ReflectliteType.toType t) #[.agg #[.pointer (some ⟨1, 126, none⟩), .pointer (some a), .int .u64 150]]).run Tryd.prog w
    = .ok (.iface 175 (.agg #[.pointer (some ⟨1, 126, none⟩)])) w := by kernel_rfl
theorem As.methodKind (h : Value) (w : World) : (Go.method 318 175 (.agg #[h]) "Kind").run Tryd.prog w = .ok (110, h) w := by kernel_rfl
theorem As.kindP (w : World) : ((ReflectliteType.abiMethod fun t => (fun a : Nat => Value.int IntKind.u8 (a : Int)) <$> Rtype.kind t) #[.pointer (some ⟨1, 126, none⟩)]).run Tryd.prog w = .ok (.int .u8 22) w := by kernel_rfl
theorem As.kindE (w : World) : ((ReflectliteType.abiMethod fun t => (fun a : Nat => Value.int IntKind.u8 (a : Int)) <$> Rtype.kind t) #[.pointer (some ⟨1, 29, none⟩)]).run Tryd.prog w = .ok (.int .u8 2) w := by kernel_rfl

theorem As.methodP (z : Sem Value) (f : TypeId → Addr → Nat → Nat → Sem Value) (a : Addr) (W : World) :
    (ReflectliteValue.method z f #[.agg #[.pointer (some ⟨1, 126, none⟩), .pointer (some a), .int .u64 150]]).run Tryd.prog W = (f 126 a 150 22).run Tryd.prog W := by kernel_rfl
theorem As.isNilP (a p : Addr) (W : World) (ha : W.cell? a = some (.pointer (some p))) :
    (ReflectliteValue.method (ReflectliteValue.valueError "reflectlite.Value.IsNil" 0) ReflectliteValue.isNil #[.agg #[.pointer (some ⟨1, 126, none⟩), .pointer (some a), .int .u64 150]]).run Tryd.prog W = .ok (.bool false) W := by
  rw [As.methodP]
  simp [ReflectliteValue.isNil, loadVar, isAgg, underlying, Tryd.underlying126, ha, Result.andThen]

theorem As.methodElem (h : Value) (w : World) : (Go.method 318 175 (.agg #[h]) "Elem").run Tryd.prog w = .ok (120, .agg #[h]) w := by kernel_rfl
theorem As.methodImplements (h : Value) (w : World) : (Go.method 318 175 (.agg #[h]) "Implements").run Tryd.prog w = .ok (121, .agg #[h]) w := by kernel_rfl
theorem As.methodAssignableTo (h : Value) (w : World) : (Go.method 318 175 (.agg #[h]) "AssignableTo").run Tryd.prog w = .ok (118, .agg #[h]) w := by kernel_rfl
theorem As.elemP (w : World) : (ReflectliteType.method ReflectliteType.elem #[.agg #[.pointer (some ⟨1, 126, none⟩)]]).run Tryd.prog w = .ok (.iface 175 (.agg #[.pointer (some ⟨1, 29, none⟩)])) w := by kernel_rfl
theorem As.implementsE (w : World) : (ReflectliteType.relation "Implements" ReflectliteType.implements_ #[.agg #[.pointer (some ⟨1, 29, none⟩)], .iface 175 (.agg #[.pointer (some ⟨1, 33, none⟩)])]).run Tryd.prog w = .ok (.bool true) w := by kernel_rfl
theorem As.typeOfE (v : Value) (w : World) : (ReflectliteType.typeOf #[.iface 29 v]).run Tryd.prog w = .ok (.iface 175 (.agg #[.pointer (some ⟨1, 29, none⟩)])) w := by kernel_rfl
theorem As.assignableE (w : World) : (ReflectliteType.relation "AssignableTo" ReflectliteType.assignableTo #[.agg #[.pointer (some ⟨1, 29, none⟩)], .iface 175 (.agg #[.pointer (some ⟨1, 29, none⟩)])]).run Tryd.prog w = .ok (.bool true) w := by kernel_rfl
theorem As.valueOfE (k : Int) (w : World) : (ReflectliteValue.unpack (.iface 29 (.int .i64 k))).run Tryd.prog w
    = .ok (.agg #[.pointer (some ⟨1, 29, none⟩), .pointer (some ⟨w.heap.size, 0, none⟩), .int .u64 130]) (w.alloc (.cells #[.int .i64 k] 29)) := by kernel_rfl
theorem As.elemOfP (w : World) : (Rtype.elem? 126).run Tryd.prog w = .ok (some 29) w := by kernel_rfl
theorem As.mkE (p : Addr) (w : World) : (ReflectliteValue.mk 29 p ReflectliteValue.flagAddr).run Tryd.prog w = .ok (.agg #[.pointer (some ⟨1, 29, none⟩), .pointer (some p), .int .u64 386]) w := by kernel_rfl
theorem As.elemVP (a p : Addr) (W : World) (ha : W.cell? a = some (.pointer (some p))) :
    (ReflectliteValue.method (ReflectliteValue.valueError "reflectlite.Value.Elem" 0) ReflectliteValue.elem #[.agg #[.pointer (some ⟨1, 126, none⟩), .pointer (some a), .int .u64 150]]).run Tryd.prog W
      = .ok (.agg #[.pointer (some ⟨1, 29, none⟩), .pointer (some p), .int .u64 386]) W := by
  rw [As.methodP]
  simp [ReflectliteValue.elem, loadVar, isAgg, underlying, Tryd.underlying126, ha, Result.andThen, As.elemOfP, As.mkE]
theorem As.setRun (ta b : Addr) (W : World) :
    (ReflectliteValue.set #[.agg #[.pointer (some ⟨1, 29, none⟩), .pointer (some ta), .int .u64 386], .agg #[.pointer (some ⟨1, 29, none⟩), .pointer (some b), .int .u64 130]]).run Tryd.prog W
      = (loadVar 29 b >>= fun v => storeVar 29 ta v >>= fun _ => pure (.tuple #[])).run Tryd.prog W := by kernel_rfl
theorem As.setE (ta b : Addr) (k : Int) (old : Value) (W : World) (hb : W.cell? b = some (.int .i64 k)) (ht : W.cell? ta = some old) (hf : W.frozen? ta = false) :
    (ReflectliteValue.set #[.agg #[.pointer (some ⟨1, 29, none⟩), .pointer (some ta), .int .u64 386], .agg #[.pointer (some ⟨1, 29, none⟩), .pointer (some b), .int .u64 130]]).run Tryd.prog W
      = .ok (.tuple #[]) (W.setCell ta (.int .i64 k)) := by
  rw [As.setRun]
  simp [loadVar, isAgg, underlying, Tryd.underlying29, hb, Result.andThen, storeVar, Value.cells, storeCells, Addr.add]
  rw [run_store Tryd.prog W ta _ _ (by rfl)]
  simp [ht, hf]

set_option maxHeartbeats 4000000 in
theorem as_hit (k : Int) (t : Addr) (old : Value) (w : World) (hg : w.cell? ⟨0, 0, none⟩ = some (.iface 175 (.agg #[.pointer (some ⟨1, 33, none⟩)]))) (ht0 : w.cell? t = some old) (hf0 : w.frozen? t = false) :
    Calls Tryd.prog 57 #[.iface 29 (.int .i64 k), .iface 126 (.pointer (some t))] w fun ev w' => ev = .returned (.bool true) ∧ w' = ((((w.alloc (.cells #[.pointer (some t)] 126)).alloc (.cells #[.pointer (some ⟨1, 126, none⟩), .pointer (some ⟨w.heap.size, 0, none⟩), .int .u64 150] 156)).alloc (.cells #[.pointer (some ⟨1, 126, none⟩), .pointer (some ⟨w.heap.size, 0, none⟩), .int .u64 150] 156)).alloc (.cells #[.int .i64 k] 29)).setCell t (.int .i64 k) := by
  have h6 := @run_callFunc_extern Tryd.prog 78 _ (fun args => ReflectliteValue.unpack (args.getD 0 (.tuple #[]))) Tryd.func78 (by kernel_rfl) (by kernel_rfl) (by kernel_rfl) (by kernel_rfl)
  have h7 := @run_callFunc_extern Tryd.prog 79 _ (ReflectliteValue.methodAny (ReflectliteValue.valueError "reflectlite.Value.Type" 0) (fun t _ _ _ => ReflectliteType.toType t)) Tryd.func79 (by kernel_rfl) (by kernel_rfl) (by kernel_rfl) (by kernel_rfl)
  have h8 := @run_callFunc_extern Tryd.prog 80 _ (ReflectliteValue.method (ReflectliteValue.valueError "reflectlite.Value.IsNil" 0) ReflectliteValue.isNil) Tryd.func80 (by kernel_rfl) (by kernel_rfl) (by kernel_rfl) (by kernel_rfl)
  have h27 := @run_callFunc_extern Tryd.prog 110 _ (ReflectliteType.abiMethod fun t => do pure (.int .u8 (← Rtype.kind t))) Tryd.func110 (by kernel_rfl) (by kernel_rfl) (by kernel_rfl) (by kernel_rfl)
  have h37 := @run_callFunc_extern Tryd.prog 120 _ (ReflectliteType.method ReflectliteType.elem) Tryd.func120 (by kernel_rfl) (by kernel_rfl) (by kernel_rfl) (by kernel_rfl)
  have h38 := @run_callFunc_extern Tryd.prog 121 _ (ReflectliteType.relation "Implements" ReflectliteType.implements_) Tryd.func121 (by kernel_rfl) (by kernel_rfl) (by kernel_rfl) (by kernel_rfl)
  have h10 := @run_callFunc_extern Tryd.prog 91 _ ReflectliteType.typeOf Tryd.func91 (by kernel_rfl) (by kernel_rfl) (by kernel_rfl) (by kernel_rfl)
  have h35 := @run_callFunc_extern Tryd.prog 118 _ (ReflectliteType.relation "AssignableTo" ReflectliteType.assignableTo) Tryd.func118 (by kernel_rfl) (by kernel_rfl) (by kernel_rfl) (by kernel_rfl)
  have h11 := @run_callFunc_extern Tryd.prog 92 _ (ReflectliteValue.method (ReflectliteValue.valueError "reflectlite.Value.Elem" 0) ReflectliteValue.elem) Tryd.func92 (by kernel_rfl) (by kernel_rfl) (by kernel_rfl) (by kernel_rfl)
  have h12 := @run_callFunc_extern Tryd.prog 93 _ ReflectliteValue.set Tryd.func93 (by kernel_rfl) (by kernel_rfl) (by kernel_rfl) (by kernel_rfl)
  have tO := As.typeOfE
  have mA := As.methodAssignableTo
  have a25 := As.assignableE
  have v25 := As.valueOfE
  have f6 := As.valueOfP
  have f7 := As.typeP
  have mK := As.methodKind
  have mE := As.methodElem
  have mI := As.methodImplements
  have k27 := As.kindP
  have k25 := As.kindE
  have e27 := As.elemP
  have i25 := As.implementsE
  have n8 := As.isNilP ⟨w.heap.size, 0, none⟩ t ((w.alloc (.cells #[.pointer (some t)] 126)).alloc (.cells #[.pointer (some ⟨1, 126, none⟩), .pointer (some ⟨w.heap.size, 0, none⟩), .int .u64 150] 156)) (by simp)
  have hlt : 0 < w.heap.size := by
    rcases Nat.eq_zero_or_pos w.heap.size with h0 | h
    · simp [World.cell?, h0] at hg
    · exact h
  have hg2 : ((w.alloc (.cells #[.pointer (some t)] 126)).alloc (.cells #[.pointer (some ⟨1, 126, none⟩), .pointer (some ⟨w.heap.size, 0, none⟩), .int .u64 150] 156)).cell? ⟨0, 0, none⟩ = some (.iface 175 (.agg #[.pointer (some ⟨1, 33, none⟩)])) := by
    rw [World.cell?_alloc_lt _ _ ⟨0, 0, none⟩ (by simp), World.cell?_alloc_lt _ _ ⟨0, 0, none⟩ hlt]; exact hg
  have htl : t.block < w.heap.size := by
    rcases Nat.lt_or_ge t.block w.heap.size with h | h
    · exact h
    · simp [World.cell?, Array.getElem?_eq_none h] at ht0
  have el := As.elemVP ⟨w.heap.size, 0, none⟩ t (((w.alloc (.cells #[.pointer (some t)] 126)).alloc (.cells #[.pointer (some ⟨1, 126, none⟩), .pointer (some ⟨w.heap.size, 0, none⟩), .int .u64 150] 156)).alloc (.cells #[.pointer (some ⟨1, 126, none⟩), .pointer (some ⟨w.heap.size, 0, none⟩), .int .u64 150] 156)) (by rw [World.cell?_alloc_lt _ _ ⟨w.heap.size, 0, none⟩ (by simp; omega)]; simp)
  have st := As.setE t ⟨w.heap.size + 1 + 1 + 1, 0, none⟩ k old ((((w.alloc (.cells #[.pointer (some t)] 126)).alloc (.cells #[.pointer (some ⟨1, 126, none⟩), .pointer (some ⟨w.heap.size, 0, none⟩), .int .u64 150] 156)).alloc (.cells #[.pointer (some ⟨1, 126, none⟩), .pointer (some ⟨w.heap.size, 0, none⟩), .int .u64 150] 156)).alloc (.cells #[.int .i64 k] 29))
    (by rw [World.cell?_alloc_at _ _ _ _ (by simp)]; rfl)
    (by rw [World.cell?_alloc_lt _ _ t (by simp; omega), World.cell?_alloc_lt _ _ t (by simp; omega), World.cell?_alloc_lt _ _ t (by simp; omega), World.cell?_alloc_lt _ _ t htl]; exact ht0)
    (by rw [World.frozen?_alloc_old _ _ t (by simp; omega), World.frozen?_alloc_old _ _ t (by simp; omega), World.frozen?_alloc_old _ _ t (by simp; omega), World.frozen?_alloc_old _ _ t (Nat.ne_of_lt htl)]; exact hf0)
  go_enter Tryd.func57, Tryd.ntmps57
  go_wp2
  refine wp_loop_rounds 1 ?_
  rw [rounds_succ]
  go_wp2
  go_ret
  exact ⟨rfl, rfl⟩
end Go.Proofs.YtbbgabdiikdjpaaDoor

namespace Go.Proofs.YtbbgabdiikdjpaaDoor
open Go.RowKit Go.Deep

theorem ret_num {k j : Int} (h : k = j) : Ending.returned (.int .i64 j) = .returned (.int .i64 k) := by rw [h]

/-- A number that goes with the bytes so far, as long as they are not too many. -/
def Goes (z : Int) (t : Nat) : Prop := 1 ≤ z ∧ z ≤ 400 ∧ (z ≤ 255 → z = (t : Int) + 1) ∧ (255 < z → 254 < t)

theorem goes_zero : Goes 1 0 := ⟨by omega, by omega, fun _ => by omega, fun h => by omega⟩
theorem goes_next {z : Int} {t s : Nat} (h : Goes z t) (hz : z ≤ 255) (h1 : s ≤ 63) : Goes (z + ((s : Int) + 1)) (t + (s + 1)) := by
  obtain ⟨a, b, c, d⟩ := h
  have := c hz
  exact ⟨by omega, by omega, fun _ => by omega, fun _ => by omega⟩
theorem goes_stays {z : Int} {t s : Nat} (h : Goes z t) (hz : 255 < z) : Goes z (t + s) := by
  obtain ⟨a, b, c, d⟩ := h
  have := d hz
  exact ⟨a, b, fun q => by omega, fun _ => by omega⟩
theorem goes_long {z : Int} {t : Nat} (h : Goes z t) (hz : 255 < z) : 254 < t := h.2.2.2 hz
theorem goes_short {z : Int} {t : Nat} (h : Goes z t) (hz : z ≤ 255) : ¬ 254 < t := by have := h.2.2.1 hz; omega

set_option maxHeartbeats 400000 in
theorem fault_any (x : Option Addr) (c : Nat) (n : List ByteArray) (w : World) (h : Strs w x c n) :
    Calls Tryd.prog 38 #[.slice x n.length c] w fun e w' => e = .returned (.int .i64 (Nm.checkN (n.map Nm.bs))) ∧ w = w' := by
  have hl : n.length ≤ 8796093022208 := h.2.1
  go_enter Tryd.func38, Tryd.ntmps38
  go_wp2
  go_loop [3, 4] (fun s i => ∃ (k t : Nat) (z : Int), k ≤ n.length ∧ s = .int .i64 z ∧ i = .int .i64 (k : Int) ∧ Fine n k t ∧ Goes z t) (fun _ i => n.length - (intOf i).toNat)
  case atStart => exact ⟨0, 0, 1, Nat.zero_le _, rfl, rfl, fine_zero n, goes_zero⟩
  case round =>
    obtain ⟨k, t, z, hk, rfl, rfl, hfine, hgo⟩ := hrel
    have b1 := hgo.1
    have b2 := hgo.2.1
    by_cases h1 : k < n.length
    · obtain ⟨_, _, sa, da⟩ := h
      rcases da with da | ⟨ba, oa, rfl, _, qa⟩
      · rw [da] at h1; simp at h1
      have fa := qa k (by omega)
      have E1 := hid (fine_next hfine h1)
      have E2 := hid (@check_bad n k h1)
      clear qa sa
      generalize n.getD k ByteArray.empty = s at *
      by_cases hs0 : s.size = 0
      · have hz : ((s.size : Int) == 0) = true := beq_iff_eq.2 (by omega)
        have E3 := hid (E2.out (Or.inl hs0))
        clear E1 E2 hs0
        go_wp2
        go_ret
        exact ⟨ret_num E3.out, rfl⟩
      · have hz : ((s.size : Int) == 0) = false := beq_eq_false_iff_ne.2 (by omega)
        by_cases hs1 : 63 < s.size
        · have hs2 : (63 : Int) < (s.size : Int) := by omega
          have E3 := hid (E2.out (Or.inr hs1))
          clear E1 E2
          go_wp2
          go_ret
          exact ⟨ret_num E3.out, rfl⟩
        · have hs2 : ¬ (63 : Int) < (s.size : Int) := by omega
          have hs3 : 1 ≤ s.size := by omega
          by_cases hz2 : z ≤ 255
          · have G := goes_next hgo hz2 (show s.size ≤ 63 by omega)
            clear hgo
            go_wp2
            exact ⟨⟨k + 1, t + (s.size + 1), z + ((s.size : Int) + 1), by omega, by go_num, by go_num, E1.out hs3 (by omega), G⟩, by simp [intOf]; omega⟩
          · have G := goes_stays (s := s.size + 1) hgo (by omega)
            clear hgo
            go_wp2
            exact ⟨⟨k + 1, t + (s.size + 1), z, by omega, rfl, by go_num, E1.out hs3 (by omega), G⟩, by simp [intOf]; omega⟩
    · have E := check_end hfine (by omega)
      by_cases hz2 : z ≤ 255
      · rw [if_neg (goes_short hgo hz2)] at E
        have E3 := hid E
        have i1 : ¬ (255 : Int) < z := by omega
        clear E hz2 hgo
        go_wp2
        go_ret
        exact ⟨ret_num E3.out, rfl⟩
      · rw [if_pos (goes_long hgo (by omega))] at E
        have E3 := hid E
        have i1 : (255 : Int) < z := by omega
        clear E hz2 hgo
        go_wp2
        go_ret
        exact ⟨ret_num E3.out, rfl⟩

theorem fault_at (r : Int) {x : Option Addr} {c l : Nat} (n : List ByteArray) (w : World) (h : Strs w x c n) (hl : n.length = l) (hr : Nm.checkN (n.map Nm.bs) = r) :
    Calls Tryd.prog 38 #[.slice x l c] w fun e w' => e = .returned (.int .i64 r) ∧ w = w' := by
  subst hl hr; exact fault_any x c n w h

theorem folded_next (s : ByteArray) (k : Nat) (h : k < s.size) : ((Nm.bs s).take k).map Nm.foI ++ [Nm.foI (s[k].toNat : Int)] = ((Nm.bs s).take (k + 1)).map Nm.foI := by
  rw [List.take_succ_eq_append_getElem (by rw [bs_length]; exact h), bs_get s k h, List.map_append]; rfl

theorem folded_len (s : ByteArray) (k : Nat) (h : k ≤ s.size) : (((Nm.bs s).take k).map Nm.foI).length = k := by
  rw [List.length_map, List.length_take, bs_length]; omega

theorem folded_all (s : ByteArray) (k : Nat) (h : s.size ≤ k) : ((Nm.bs s).take k).map Nm.foI = (Nm.bs s).map Nm.foI := by
  rw [List.take_of_length_le (by rw [bs_length]; exact h)]

/-- What the library keeps of the type of errors lies where it was laid. -/
def Glob (w : World) : Prop := w.cell? ⟨0, 0, none⟩ = some (.iface 175 (.agg #[.pointer (some ⟨1, 33, none⟩)]))

theorem Glob.pos {w : World} (h : Glob w) : 0 < w.heap.size := by
  rcases Nat.eq_zero_or_pos w.heap.size with h0 | h0
  · unfold Glob at h; simp [World.cell?, h0] at h
  · exact h0

theorem Glob.below {w w' : World} (h : Glob w) (k : Below w.heap.size w w') : Glob w' := by
  unfold Glob at *
  rw [k.cell (p := ⟨0, 0, none⟩) (Glob.pos h)]; exact h

set_option maxHeartbeats 400000 in
theorem told_any (k : Int) (w : World) (hg : Glob w) :
    Calls Tryd.prog 32 #[errV k] w fun e w' => e = .returned (.int .i64 k) ∧ Below w.heap.size w w' := by
  by_cases hk : k = 0
  · subst hk
    rw [errV_none]
    go_enter Tryd.func32, Tryd.ntmps32
    go_wp2
    go_ret
    exact ⟨rfl, Below.refl _ _⟩
  · rw [errV_some hk]
    clear hk
    have hp := hg.pos
    have b1 : Below w.heap.size w (w.alloc (.cells #[.int .i64 0] 29)) := (Below.refl _ _).alloc (Nat.le_refl _) _
    have g1 := hg.below b1
    have BB := hid b1
    clear b1
    go_enter Tryd.func32, Tryd.ntmps32
    go_wp2_with fail
    refine (as_hit k ⟨w.heap.size, 0, none⟩ (.int .i64 0) _ g1 (by simp) (by simp)).mono ?_
    rintro e w1 ⟨rfl, rfl⟩
    go_wp2_with fail
    go_ret
    refine ⟨rfl, ?_⟩
    repeat (first | exact Below.refl _ _ | refine Below.setCell ?_ (Nat.le_refl _) _ | refine Below.alloc ?_ (by simp <;> omega) _)

set_option maxHeartbeats 400000 in
theorem error_any (k j : Int) (w : World) (hg : Glob w) :
    Calls Tryd.prog 7 #[errV k, .int .i64 j] w fun e w' => e = .returned (.bool (k == j)) ∧ Below w.heap.size w w' := by
  go_enter Tryd.func7, Tryd.ntmps7
  go_wp2_with fail
  refine (told_any k _ hg).mono ?_
  rintro e w1 ⟨rfl, b1⟩
  go_wp2_with fail
  go_ret
  exact ⟨rfl, b1⟩

theorem error_at (k j : Int) (v : Value) (w : World) (hg : Glob w) (hv : errV k = v) (h : k = j) :
    Calls Tryd.prog 7 #[v, .int .i64 j] w fun e w' => e = .returned (.bool true) ∧ Below w.heap.size w w' := by
  subst hv h
  exact (error_any k k w hg).mono fun e w' ⟨a, b⟩ => ⟨by rw [a, beq_self_eq_true], b⟩

end Go.Proofs.YtbbgabdiikdjpaaDoor
