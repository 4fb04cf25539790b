/-
  The law of a region whose last operation alone writes, within a round of a range over a function.
-/
import Derived.Test.YtgfplkhcihcagabDoorLast
import Derived.Test.YtgfplkhcihcagabDoorTails
namespace Go.Proofs.YtgfplkhcihcagabDoor
open Go

theorem wpIn_region_last {P : Program} {l : List Oper} {Q : Exit → Act → World → Prop} {id r n : Nat} {a : Act} {w : World} (o : Oper) (hm : P.follows .mixedOrders = true) (ho : l.getLast? = some o) (hB : lastB l o = true) (hp : plainB l.toArray = true) (hlo : ∀ a w, ¬ Q .outgrown a w)
    (h : wpQuiet P l.toArray (fun w' => ∃ n, w' = w.drewN n) (fun a' => ∀ w', (∃ n, w' = w.drewN n) → o.wp P a' w' (fun a'' w'' => Q .normal a'' w'') Q) l.dropLast a) :
    (Code.region id l.toArray true).wpIn (Fence.wide.inRound r) n P Q a w := by
  refine wpIn_region_any hm ?_
  have := anyIn_of_any (l := r) (n := n) hp (fun ⟨a, w, q⟩ => hlo a w q) _ _ _ _ (last_any (Q := Q) o ho hB h)
  simpa using this

/-- What holds behind the last operation, said apart from where it leads. -/
theorem wp_then {P : Program} {o : Oper} {a : Act} {w : World} {K : Act → World → Prop} {Q : Exit → Act → World → Prop}
    (h : ∀ (K' : Act → World → Prop) (Q' : Exit → Act → World → Prop), (∀ a' w', K a' w' → K' a' w') → o.wp P a w K' Q') : o.wp P a w K Q := h _ _ fun _ _ q => q

end Go.Proofs.YtgfplkhcihcagabDoor
