/-
  The walk of Len.
-/
import Derived.Test.YtclkhegdbikcoaaDoorTlMem
namespace Go.Proofs.YtclkhegdbikcoaaDoor.Tl
open Go.RowKit Go.Deep Go.Maps

set_option maxRecDepth 100000 in
theorem tlen_any (tb mb : Nat) (E : List (List ByteArray × Int)) (w : World) (h : TailS w tb mb E) :
    Calls Tryd.prog 8 #[.pointer (some ⟨tb, 0, none⟩)] w fun e w' => e = .returned (.int .i64 (endsT [] E : Nat)) ∧ w = w' := by
  obtain ⟨n, D, hown, _, _, _, hs, _⟩ := h.mp
  have c0 := h.st.cell (i := 0) rfl
  have HS := hid hs
  clear hs
  go_enter Tryd.func8, Tryd.ntmps8
  go_wp2_with (first | (at_len; refine wpList_len_own _ rfl _ 42 rfl 9 3 Tryd.underlying42 _ mb n D rfl hown ?_) | fail)
  go_ret
  exact ⟨by rw [HS.out]; rfl, rfl⟩

end Go.Proofs.YtclkhegdbikcoaaDoor.Tl
