/-
  The walk of Record of package pointsmansame at two records that are the same: true; it writes nothing that was there.
-/
import Derived.Test.YtjpahieeaojieabRr
namespace Go.Proofs.Ytjpahieeaojieab
open Go.RowKit Go.Deep

set_option maxHeartbeats 1000000 in
set_option maxRecDepth 100000 in
theorem srecord_at {ya yb ua ub : Option Addr} {da db ca cb la lb ma mb : Nat} (n : List ByteArray) (D : List Int) (ty cl ttl : Int) (w : World) (ha : Strs w ya da n) (hb : Strs w yb db n) (hc : Bys w ua ca D) (hd : Bys w ub cb D)
    (hla : n.length = la) (hlb : n.length = lb) (hma : D.length = ma) (hmb : D.length = mb) :
    Calls Try.prog 13 #[.agg #[.slice ya la da, .int .i64 ty, .int .i64 cl, .int .i64 ttl, .slice ua ma ca], .agg #[.slice yb lb db, .int .i64 ty, .int .i64 cl, .int .i64 ttl, .slice ub mb cb]] w fun e w' => e = .returned (.bool true) ∧ Below w.heap.size w w' := by
  go_enter Try.func13, Try.ntmps13
  go_wp2_with fail
  have B0 : Below w.heap.size w _ := ((Below.refl _ w).alloc (Nat.le_refl _) (.cells #[.slice ya la da, .int .i64 ty, .int .i64 cl, .int .i64 ttl, .slice ua ma ca] 31)).alloc (by simp) (.cells #[.slice yb lb db, .int .i64 ty, .int .i64 cl, .int .i64 ttl, .slice ub mb cb] 31)
  have KA := (Bl.new 31 w #[.slice ya la da, .int .i64 ty, .int .i64 cl, .int .i64 ttl, .slice ua ma ca]).below ((Below.refl _ _).alloc (Nat.le_refl _) (.cells #[.slice yb lb db, .int .i64 ty, .int .i64 cl, .int .i64 ttl, .slice ub mb cb] 31))
  have KB := Bl.new 31 (w.alloc (.cells #[.slice ya la da, .int .i64 ty, .int .i64 cl, .int .i64 ttl, .slice ua ma ca] 31)) #[.slice yb lb db, .int .i64 ty, .int .i64 cl, .int .i64 ttl, .slice ub mb cb]
  have hs0 : (w.alloc (.cells #[.slice ya la da, .int .i64 ty, .int .i64 cl, .int .i64 ttl, .slice ua ma ca] 31)).heap.size = w.heap.size + 1 := by simp
  rw [hs0] at KB
  clear hs0
  refine (texts_here true n n _ (ha.below B0) (hb.below B0) hla hlb (by simp)).mono ?_
  rintro e w1 ⟨rfl, b1⟩
  have B1 := grown_on B0 b1
  have KA1 := KA.below b1
  have KB1 := KB.below b1
  clear B0 KA KB b1
  have a1 : w1.cell? ⟨w.heap.size, 1, none⟩ = some (.int .i64 ty) := KA1.cell (i := 1) rfl
  have a2 : w1.cell? ⟨w.heap.size, 2, none⟩ = some (.int .i64 cl) := KA1.cell (i := 2) rfl
  have a3 : w1.cell? ⟨w.heap.size, 3, none⟩ = some (.int .i64 ttl) := KA1.cell (i := 3) rfl
  have a4 : w1.cell? ⟨w.heap.size, 4, none⟩ = some (.slice ua ma ca) := KA1.cell (i := 4) rfl
  have e1 : w1.cell? ⟨w.heap.size + 1, 1, none⟩ = some (.int .i64 ty) := KB1.cell (i := 1) rfl
  have e2 : w1.cell? ⟨w.heap.size + 1, 2, none⟩ = some (.int .i64 cl) := KB1.cell (i := 2) rfl
  have e3 : w1.cell? ⟨w.heap.size + 1, 3, none⟩ = some (.int .i64 ttl) := KB1.cell (i := 3) rfl
  have e4 : w1.cell? ⟨w.heap.size + 1, 4, none⟩ = some (.slice ub mb cb) := KB1.cell (i := 4) rfl
  go_wp2_with fail
  refine (bytes_at true D D _ (hc.below B1) (hd.below B1) hma hmb (by simp)).mono ?_
  rintro e w2 ⟨rfl, b2⟩
  have B2 := grown_on B1 b2
  have KA2 := KA1.below b2
  have KB2 := KB1.below b2
  clear B1 KA1 KB1 b2 a1 a2 a3 a4 e1 e2 e3 e4
  have a1 : w2.cell? ⟨w.heap.size, 1, none⟩ = some (.int .i64 ty) := KA2.cell (i := 1) rfl
  have a2 : w2.cell? ⟨w.heap.size, 2, none⟩ = some (.int .i64 cl) := KA2.cell (i := 2) rfl
  have a3 : w2.cell? ⟨w.heap.size, 3, none⟩ = some (.int .i64 ttl) := KA2.cell (i := 3) rfl
  have e1 : w2.cell? ⟨w.heap.size + 1, 1, none⟩ = some (.int .i64 ty) := KB2.cell (i := 1) rfl
  have e2 : w2.cell? ⟨w.heap.size + 1, 2, none⟩ = some (.int .i64 cl) := KB2.cell (i := 2) rfl
  have e3 : w2.cell? ⟨w.heap.size + 1, 3, none⟩ = some (.int .i64 ttl) := KB2.cell (i := 3) rfl
  clear KA2 KB2
  go_wp2_with fail
  go_ret
  exact ⟨rfl, B2⟩

end Go.Proofs.Ytjpahieeaojieab
