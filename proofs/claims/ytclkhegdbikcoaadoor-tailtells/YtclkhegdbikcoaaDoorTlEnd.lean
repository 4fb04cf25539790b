/-
  The walk of the statements' own ended; a law's tails, and a Put of any name.
-/
import Derived.Test.YtclkhegdbikcoaaDoorTlGet
namespace Go.Proofs.YtclkhegdbikcoaaDoor.Tl
open Go.RowKit Go.Deep Go.Maps

theorem two_new (w : World) (a b : ByteArray) (ha : a.size ≤ 63) (hb : b.size ≤ 63) : Strs (w.alloc (.cells #[.string a, .string b] 9)) (some ⟨w.heap.size, 0, none⟩) 2 [a, b] := by
  refine ⟨Nat.le_refl _, by simp, fun s hs => ?_, Or.inr ⟨w.heap.size, 0, rfl, by simp, fun i hi => ?_⟩⟩
  · simp only [List.mem_cons, List.not_mem_nil, or_false] at hs
    rcases hs with rfl | rfl <;> omega
  · rw [World.cell?_alloc_at _ _ _ _ rfl]
    match i, hi with
    | 0, _ => rfl
    | 1, _ => rfl

theorem get_ab : getT [([⟨#[66]⟩], 7)] [⟨#[97]⟩, ⟨#[98]⟩] = some (1, 7) := by decide +kernel
theorem check_B : Nm.checkN ([(⟨#[66]⟩ : ByteArray)].map Nm.bs) = 0 := by decide +kernel

set_option maxHeartbeats 1000000 in
set_option maxRecDepth 100000 in
theorem ended_any (w : World) : Calls Tryd.prog 12 #[] w fun e w' => e = .returned (.bool true) ∧ Below w.heap.size w w' := by
  have G := hid get_ab
  have K := hid check_B
  go_enter Tryd.func12, Tryd.ntmps12
  go_wp2_with fail
  refine (tnew_any w).mono ?_
  rintro e w1 ⟨tb, rfl, htb, hT, b1⟩
  have HT := hid hT
  have B1 := hid b1
  obtain ⟨mb, hmb⟩ : ∃ mb, w.heap.size = mb := ⟨_, rfl⟩
  have HW := hid hmb
  rw [hmb] at HT htb
  clear hT b1 hmb
  go_wp2_with fail
  have N1 := one_new w1 ⟨#[66]⟩ (by decide)
  have b2 : Below w1.heap.size w1 (w1.alloc (.cells #[.string ⟨#[66]⟩] 9)) := (Below.refl _ _).alloc (Nat.le_refl _) _
  have HT2 := HT.out.below b2
  have B2 := B1.out.trans (b2.mono B1.out.size)
  refine (tput_good tb mb [] [⟨#[66]⟩] 7 _ HT2 N1 rfl K.out (by simp) (by decide) (by decide)).mono ?_
  rintro e w3 ⟨rfl, hT3, g3⟩
  have HT3 : Hid (TailS w3 tb mb [([⟨#[66]⟩], 7)]) := hid hT3
  have B3 : Hid (Below w.heap.size w w3) := hid (B2.grown g3 (by simp; exact Nat.le_succ_of_le B1.out.size) (fun k q => by cases q; rw [HW.out]; exact Nat.le_refl _))
  have hsz3 : w.heap.size ≤ w3.heap.size := B3.out.size
  clear hT3 g3 B2 HT2 b2 N1
  go_wp2_with fail
  have N2 := two_new w3 ⟨#[97]⟩ ⟨#[98]⟩ (by decide) (by decide)
  have b4 : Below w3.heap.size w3 (w3.alloc (.cells #[.string ⟨#[97]⟩, .string ⟨#[98]⟩] 9)) := (Below.refl _ _).alloc (Nat.le_refl _) _
  refine (tget_any tb mb [([⟨#[66]⟩], 7)] [⟨#[97]⟩, ⟨#[98]⟩] _ (HT3.out.below b4) N2 rfl).mono ?_
  rintro e w5 ⟨rfl, b5⟩
  have B5 : Hid (Below w.heap.size w w5) := hid ((B3.out.trans (b4.mono hsz3)).trans (b5.mono (by simp; omega)))
  have hg : getV (getT [([⟨#[66]⟩], 7)] [⟨#[97]⟩, ⟨#[98]⟩]) = .tuple #[.int .i64 7, .int .i64 1, .bool true] := by rw [G.out]; rfl
  rw [hg]
  clear hg b5 b4 N2
  go_wp2_with fail
  go_ret
  exact ⟨rfl, B5.out⟩

/-- A law's tails: in blocks of their own, all else of w0 is as it was. -/
structure TailL (w0 w : World) (tb mb : Nat) (E : List (List ByteArray × Int)) : Prop where
  st : TailS w tb mb E
  new : w0.heap.size ≤ mb
  old : Below w0.heap.size w0 w

theorem TailL.below {w0 w w' : World} {tb mb : Nat} {E : List (List ByteArray × Int)} (h : TailL w0 w tb mb E) (k : Below w.heap.size w w') : TailL w0 w' tb mb E :=
  ⟨h.st.below k, h.new, h.old.trans (k.mono h.old.size)⟩

theorem TailL.put {w0 w w' : World} {tb mb : Nat} {E E' : List (List ByteArray × Int)} (h : TailL w0 w tb mb E) (s : TailS w' tb mb E') (g : w.grownBy w' (some mb)) : TailL w0 w' tb mb E' :=
  ⟨s, h.new, h.old.grown g h.old.size (fun k q => by cases q; exact h.new)⟩

/-- What is put for any names, each with its place. -/
def putT (E : List (List ByteArray × Int)) (n : List ByteArray) (v : Int) : List (List ByteArray × Int) := if Nm.checkN (n.map Nm.bs) = 0 then E ++ [(n, v)] else E

theorem putT_len (E : List (List ByteArray × Int)) (n : List ByteArray) (v : Int) : (putT E n v).length ≤ E.length + 1 := by
  unfold putT
  split
  · simp
  · omega

theorem tput_any {x : Option Addr} {c l : Nat} {w0 : World} (tb mb : Nat) (E : List (List ByteArray × Int)) (n : List ByteArray) (v : Int) (w : World) (hT : TailL w0 w tb mb E) (h : Strs w x c n) (hl : n.length = l)
    (hj : E.length ≤ 1000000000) (h0 : -9223372036854775808 ≤ v) (h1 : v ≤ 9223372036854775807) :
    Calls Tryd.prog 7 #[.pointer (some ⟨tb, 0, none⟩), .slice x l c, .int .i64 v] w fun e w' => e = .returned (errV (Nm.checkN (n.map Nm.bs))) ∧ TailL w0 w' tb mb (putT E n v) ∧ w.grownBy w' (some mb) := by
  by_cases hk : Nm.checkN (n.map Nm.bs) = 0
  · refine (tput_good tb mb E n v w hT.st h hl hk hj h0 h1).mono ?_
    rintro e w' ⟨rfl, s, g⟩
    unfold putT
    rw [if_pos hk, hk]
    exact ⟨rfl, hT.put s g, g⟩
  · refine (tput_bad _ n v w h hl rfl hk).mono ?_
    rintro e w' ⟨rfl, rfl⟩
    unfold putT
    rw [if_neg hk, errV_some hk]
    exact ⟨rfl, hT, grown_of (Below.refl _ _)⟩

end Go.Proofs.YtclkhegdbikcoaaDoor.Tl
