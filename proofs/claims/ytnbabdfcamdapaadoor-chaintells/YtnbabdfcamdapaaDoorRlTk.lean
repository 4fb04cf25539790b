/-
  The walk of the document's own Takes: how many rules a node takes.
-/
import Derived.Test.YtnbabdfcamdapaaDoorRlMem
namespace Go.Proofs.YtnbabdfcamdapaaDoor.Ru
open Go.RowKit Go.Deep

theorem takes_at (op k : Int) (w : World) (hk : ((takes op : Nat) : Int) = k) :
    Calls Tryd.prog 19 #[.int .i64 op] w fun e w' => e = .returned (.int .i64 k) ∧ w = w' := by
  subst hk
  unfold takes
  by_cases c1 : op = 8
  · subst c1
    go_enter Tryd.func19, Tryd.ntmps19
    go_wp2
    go_ret
    exact ⟨rfl, rfl⟩
  · by_cases c2 : op = 9
    · subst c2
      go_enter Tryd.func19, Tryd.ntmps19
      go_wp2
      go_ret
      exact ⟨rfl, rfl⟩
    · by_cases c3 : op = 10
      · subst c3
        go_enter Tryd.func19, Tryd.ntmps19
        go_wp2
        go_ret
        exact ⟨rfl, rfl⟩
      · rw [if_neg c1, if_neg (by omega)]
        have d1 : (op == 8) = false := by simpa using c1
        have d2 : (op == 9) = false := by simpa using c2
        have d3 : (op == 10) = false := by simpa using c3
        clear c1 c2 c3
        go_enter Tryd.func19, Tryd.ntmps19
        go_wp2
        go_ret
        exact ⟨rfl, rfl⟩

end Go.Proofs.YtnbabdfcamdapaaDoor.Ru
