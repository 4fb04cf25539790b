/-
  The document's own answers Ends and Last over what was put, a row of names with values.
-/
import Derived.Test.YtclkhegdbikcoaaDoorTlEnd
import Derived.Test.YtclkhegdbikcoaaDoorTlRow
import Derived.Test.YtclkhegdbikcoaaDoorRefOrder
namespace Go.Proofs.YtclkhegdbikcoaaDoor.Tl
open Go.RowKit Go.Deep Go.Maps

/-- A name with its value, in memory. -/
structure En where
  e : Sv
  val : Int

def ecells (b : En) : List Value := [b.e.v, .int .i64 b.val]

/-- What it says. -/
def En.p (b : En) : List ByteArray × Int := (b.e.n, b.val)

theorem eflat_len (l : List En) : (l.flatMap ecells).length = l.length * 2 := by
  induction l with
  | nil => rfl
  | cons x l ih => rw [List.flatMap_cons, List.length_append, ih, List.length_cons]; simp [ecells]; omega

theorem eflat_get (l : List En) : ∀ (i j : Nat) (hi : i < l.length), j < 2 → (l.flatMap ecells)[i * 2 + j]? = (ecells l[i])[j]? := by
  induction l with
  | nil => intro i j hi; simp at hi
  | cons x l ih =>
    intro i j hi hj
    rw [List.flatMap_cons]
    cases i with
    | zero => rw [Nat.zero_mul, Nat.zero_add, List.getElem?_append_left (by simp [ecells]; exact hj)]; rfl
    | succ i =>
      have e0 : (ecells x).length = 2 := rfl
      rw [List.getElem?_append_right (by rw [e0]; omega), e0, show (i + 1) * 2 + j - 2 = i * 2 + j by omega, ih i j (by simpa using hi) hj]
      rfl

/-- Names with values in a row of the call's own. -/
def ERow (w : World) (B : Nat) (v : Value) (l : List En) : Prop := w.ownsRow B 30 2 v l.length (l.flatMap ecells)

/-- A slice of them: where its cells lie. -/
def Ens (w : World) (B : Nat) (x : Option Addr) (c : Nat) (l : List En) : Prop :=
  l.length ≤ c ∧ (l = [] ∨ ∃ g cur, x = some ⟨g, 0, none⟩ ∧ B ≤ g ∧ w.heap[g]? = some (.cells cur 30 (0, 0)) ∧ ∀ i (h : i < l.length), cur[i * 2]? = some (l[i]).e.v ∧ cur[i * 2 + 1]? = some (.int .i64 (l[i]).val))

theorem ERow.ens {w : World} {B : Nat} {v : Value} {l : List En} (h : ERow w B v l) : ∃ x c, v = .slice x l.length c ∧ Ens w B x c l := by
  obtain ⟨_, h3⟩ := h
  rcases h3 with ⟨rfl, h4⟩ | ⟨g, cap, cur, rfl, hgB, hh, hn, _, hs, ht⟩
  · have : l = [] := List.length_eq_zero_iff.1 h4
    subst this
    exact ⟨none, 0, rfl, Nat.zero_le _, Or.inl rfl⟩
  · refine ⟨_, cap, rfl, hn, Or.inr ⟨g, cur, rfl, hgB, hh, fun i hi => ?_⟩⟩
    have key : ∀ j, j < 2 → cur[i * 2 + j]? = (ecells l[i])[j]? := by
      intro j hj
      rw [← eflat_get l i j hi hj, ← ht, List.getElem?_take_of_lt (by omega)]
      simp
    exact ⟨key 0 (by decide), key 1 (by decide)⟩

theorem hp_lt {w : World} {g : Nat} {o : Obj} (h : w.heap[g]? = some o) : g < w.heap.size := by
  rcases Nat.lt_or_ge g w.heap.size with q | q
  · exact q
  · rw [Array.getElem?_eq_none q] at h; cases h

theorem Ens.below {w w' : World} {B : Nat} {x : Option Addr} {c : Nat} {l : List En} (h : Ens w B x c l) (k : Below w.heap.size w w') : Ens w' B x c l := by
  obtain ⟨h1, h2⟩ := h
  refine ⟨h1, ?_⟩
  rcases h2 with h2 | ⟨g, cur, hx, hB, hh, hc⟩
  · exact Or.inl h2
  · exact Or.inr ⟨g, cur, hx, hB, by rw [k.block g (hp_lt hh), hh], hc⟩

theorem Ens.at {w : World} {B : Nat} {x : Option Addr} {c : Nat} {l : List En} (h : Ens w B x c l) {i : Nat} (hi : i < l.length) : ∃ g, x = some ⟨g, 0, none⟩ ∧ g < w.heap.size ∧ w.cell? ⟨g, i * 2, none⟩ = some (.slice (l[i]).e.x (l[i]).e.n.length (l[i]).e.c) ∧ w.cell? ⟨g, i * 2 + 1, none⟩ = some (.int .i64 (l[i]).val) := by
  obtain ⟨_, h2⟩ := h
  rcases h2 with h2 | ⟨g, cur, hx, hB, hh, hc⟩
  · rw [h2] at hi; simp at hi
  · obtain ⟨c1, c2⟩ := hc i hi
    refine ⟨g, hx, hp_lt hh, ?_, ?_⟩
    · simp only [World.cell?, hh]
      simpa [Sv.v] using c1
    · simp only [World.cell?, hh]
      simpa using c2

theorem ERow.same {w w' : World} {B : Nat} {v : Value} {l : List En} (h : ERow w B v l) (k : ∀ g cur, B ≤ g → w.heap[g]? = some (.cells cur 30 (0, 0)) → w'.heap[g]? = w.heap[g]?) : ERow w' B v l := by
  obtain ⟨h1, h2⟩ := h
  refine ⟨h1, ?_⟩
  rcases h2 with q | ⟨g, cap, cur, hv, hb, hg, r⟩
  · exact Or.inl q
  · exact Or.inr ⟨g, cap, cur, hv, hb, by rw [k g cur hb hg, hg], r⟩

theorem ERow.below {w w' : World} {B : Nat} {v : Value} {l : List En} (h : ERow w B v l) (k : Below w.heap.size w w') : ERow w' B v l :=
  h.same fun g _ _ hg => k.block g (hp_lt hg)

/-- A Put into tails leaves the row alone. -/
theorem ERow.put {w w' : World} {B mb : Nat} {v : Value} {l : List En} {E : List (List ByteArray × Int)} (h : ERow w B v l) (s : TailIs w mb E) (k : w.grownBy w' (some mb)) : ERow w' B v l :=
  h.same fun g cur _ hg => k.block g (hp_lt hg) (fun q => by
    cases q
    obtain ⟨_, _, ⟨es, clock, hb, _⟩, _⟩ := s
    rw [hg] at hb
    cases hb)

/-- An append to the row leaves tails alone. -/
theorem TailL.append {w0 w w' : World} {B tb mb : Nat} {v : Value} {l : List En} {E : List (List ByteArray × Int)} (h : TailL w0 w tb mb E) (hr : ERow w B v l) (hg : w.grownBy w' v.ownBlock) (hB : w0.heap.size ≤ B) : TailL w0 w' tb mb E := by
  rcases hr.2 with ⟨e, _⟩ | ⟨g, cap, cur, e, hgB, hh, _⟩
  · rw [e] at hg
    exact h.below ⟨hg.os, hg.tape, hg.output, hg.size, fun k hk => hg.block k hk (by simp [Value.ownBlock])⟩
  · rw [e] at hg
    refine ⟨h.st.only hg (fun q => ?_) (fun q => ?_), h.new, h.old.grown hg h.old.size (fun k q => by simp [Value.ownBlock] at q; omega)⟩
    · simp only [Value.ownBlock, Option.some.injEq] at q
      have k := h.st.st
      unfold Bl at k
      rw [q, hh] at k
      simp at k
    · simp only [Value.ownBlock, Option.some.injEq] at q
      obtain ⟨_, _, ⟨es, clock, hb, _⟩, _⟩ := h.st.mp
      rw [q, hh] at hb
      cases hb

/-! ### Ends -/

/-- No name of the first t is as the k-th. -/
def freshT (P : List En) (k t : Nat) : Bool := !((P.take t).any fun x => Nm.cN x.e.n (P.getD k ⟨default, 0⟩).e.n == 0)

theorem freshT_succ (P : List En) (k t : Nat) (ht : t < P.length) : freshT P k (t + 1) = (freshT P k t && !(Nm.cN (P.getD t ⟨default, 0⟩).e.n (P.getD k ⟨default, 0⟩).e.n == 0)) := by
  unfold freshT
  rw [List.take_succ_eq_append_getElem ht, List.any_append, List.getD_eq_getElem?_getD (i := t), List.getElem?_eq_getElem ht]
  simp

theorem any_map (P : List En) (t : Nat) (n : List ByteArray) : ((P.take t).any fun x => Nm.cN x.e.n n == 0) = (((P.map En.p).take t).any fun x => Nm.cN x.1 n == 0) := by
  rw [← List.map_take, List.any_map]
  rfl

theorem ends_next (P : List En) (k : Nat) (hk : k < P.length) : endsT [] ((P.map En.p).take (k + 1)) = if freshT P k k = true then endsT [] ((P.map En.p).take k) + 1 else endsT [] ((P.map En.p).take k) := by
  have e : (P.map En.p).take (k + 1) = (P.map En.p).take k ++ [(P.getD k ⟨default, 0⟩).p] := by
    rw [List.take_succ_eq_append_getElem (by simpa using hk), List.getElem_map, List.getD_eq_getElem?_getD, List.getElem?_eq_getElem hk]
    rfl
  rw [e, endsT_snoc, List.nil_append]
  unfold freshT
  rw [any_map]
  show _ + (if ((((P.map En.p).take k).any fun x => Nm.cN x.1 (P.getD k ⟨default, 0⟩).e.n == 0) = true) then 0 else 1) = _
  cases (((P.map En.p).take k).any fun x => Nm.cN x.1 (P.getD k ⟨default, 0⟩).e.n == 0) <;> simp

set_option maxHeartbeats 4000000 in
set_option maxRecDepth 100000 in
theorem ends_any {x : Option Addr} {c l B : Nat} (P : List En) (w : World) (h : Ens w B x c P) (hin : ∀ b ∈ P, b.e.in w) (hl : P.length = l) (h60 : P.length ≤ 100000) :
    Calls Tryd.prog 9 #[.slice x l c] w fun e w' => e = .returned (.int .i64 (endsT [] (P.map En.p) : Nat)) ∧ Drawn w w' := by
  subst hl
  have HH := hid h
  have HIN := hid hin
  clear h hin
  go_enter Tryd.func9, Tryd.ntmps9
  go_wp2
  go_loopw [3, 4] (fun s i wr => ∃ k : Nat, k ≤ P.length ∧ i = .int .i64 (k : Int) ∧ s = .int .i64 (endsT [] ((P.map En.p).take k) : Nat) ∧ Drawn w wr) (fun _ i _ => P.length - (intOf i).toNat)
  case atStart => exact ⟨0, Nat.zero_le _, rfl, rfl, Drawn.refl w⟩
  case round =>
    obtain ⟨k, hk, rfl, rfl, hdr⟩ := hrel
    obtain ⟨w3, hw3⟩ : ∃ u, u = wr := ⟨_, rfl⟩
    subst hw3
    have HD := hid hdr
    clear hdr
    have hle := endsT_le ((P.map En.p).take k) []
    have hle2 : ((P.map En.p).take k).length ≤ 100000 := by rw [List.length_take, List.length_map]; omega
    by_cases ck : k < P.length
    · have ck' : (k : Int) < (P.length : Int) := by omega
      have HEN := hid (ends_next P k ck)
      obtain ⟨ec, hec⟩ : ∃ ec, endsT [] ((P.map En.p).take k) = ec := ⟨_, rfl⟩
      rw [hec] at HEN hle ⊢
      have hecb : ec ≤ 100000 := by omega
      clear hec hle hle2
      go_wp2
      go_loopw [5, 6] (fun f j wr => ∃ t : Nat, t ≤ k ∧ j = .int .i64 (t : Int) ∧ f = .bool (freshT P k t) ∧ Drawn w wr) (fun _ j _ => k - (intOf j).toNat)
      case atStart => exact ⟨0, Nat.zero_le _, rfl, rfl, HD.out⟩
      case round =>
        obtain ⟨t, ht, rfl, rfl, hdr2⟩ := hrel
        have HD2 := hid hdr2
        by_cases ct : t < k
        · have ct' : (t : Int) < (k : Int) := by omega
          have htl : t < P.length := by omega
          have htl' : (t : Int) < (P.length : Int) := by omega
          obtain ⟨g, hx, _, x0, _⟩ := (HH.out.below (hdr2.below _)).at htl
          subst hx
          obtain ⟨g', hx', _, z0, _⟩ := (HH.out.below (hdr2.below _)).at ck
          simp only [Option.some.injEq, Addr.mk.injEq] at hx'
          obtain ⟨rfl, _⟩ := hx'
          have HFS := hid (freshT_succ P k t htl)
          have CA := hid fun (r : Int) (hr : Nm.cN P[k].e.n P[t].e.n = r) (u : World) (hu : Drawn wr u) => names_at r P[k].e.n P[t].e.n u (Strs.below (HIN.out _ (List.getElem_mem ck)) ((hdr2.trans hu).below _)) (Strs.below (HIN.out _ (List.getElem_mem htl)) ((hdr2.trans hu).below _)) rfl rfl hr
          have HT : Hid (Nm.cN P[k].e.n P[t].e.n = 0 ↔ (Nm.cN (P.getD t ⟨default, 0⟩).e.n (P.getD k ⟨default, 0⟩).e.n == 0) = true) := hid (by
            rw [List.getD_eq_getElem?_getD, List.getD_eq_getElem?_getD, List.getElem?_eq_getElem htl, List.getElem?_eq_getElem ck, Option.getD_some, Option.getD_some, same_turn]
            simp)
          clear hdr2
          generalize P[t] = E at *
          generalize P[k] = F at *
          by_cases hs : Nm.cN F.e.n E.e.n = 0
          · have CQ := hid (CA.out 0 hs)
            have HF : Hid (freshT P k (t + 1) = false) := hid (by rw [HFS.out, HT.out.1 hs]; simp)
            clear hs
            go_wp2
            go_quiet ((go_at_call 16; exact Calls.quiet_of (CQ.out _ ⟨_, rfl⟩)))
            go_wp2
            go_roundw
            case rel => exact ⟨t + 1, by omega, by go_num, by rw [HF.out], HD2.out.more _⟩
            case measure => simp [intOf]; omega
          · have CQ := hid (CA.out _ rfl)
            have HF : Hid (freshT P k (t + 1) = freshT P k t) := hid (by
              rw [HFS.out]
              cases q : (Nm.cN (P.getD t ⟨default, 0⟩).e.n (P.getD k ⟨default, 0⟩).e.n == 0) with
              | false => simp
              | true => exact absurd (HT.out.2 q) hs)
            generalize Nm.cN F.e.n E.e.n = r at *
            have hs' : (r == 0) = false := by simpa using hs
            clear hs
            go_wp2
            go_quiet ((go_at_call 16; exact Calls.quiet_of (CQ.out _ ⟨_, rfl⟩)))
            go_wp2
            go_roundw
            case rel => exact ⟨t + 1, by omega, by go_num, by rw [HF.out], HD2.out.more _⟩
            case measure => simp [intOf]; omega
        · have ct' : ¬ (t : Int) < (k : Int) := by omega
          obtain rfl : t = k := by omega
          cases hf : freshT P t t with
          | true =>
            have HE1 : Hid (endsT [] ((P.map En.p).take (t + 1)) = ec + 1) := hid (by rw [HEN.out, if_pos hf])
            clear hf
            go_wp2
            go_roundw
            case rel => exact ⟨t + 1, by omega, by go_num, by rw [HE1.out]; go_num, HD2.out⟩
            case measure => simp [intOf]; omega
          | false =>
            have HE1 : Hid (endsT [] ((P.map En.p).take (t + 1)) = ec) := hid (by rw [HEN.out, hf]; rfl)
            clear hf
            go_wp2
            go_roundw
            case rel => exact ⟨t + 1, by omega, by go_num, by rw [HE1.out], HD2.out⟩
            case measure => simp [intOf]; omega
    · have ck' : ¬ (k : Int) < (P.length : Int) := by omega
      have e1 : (P.map En.p).take k = P.map En.p := List.take_of_length_le (by rw [List.length_map]; omega)
      rw [e1]
      go_wp2
      go_ret
      exact ⟨rfl, HD.out⟩

end Go.Proofs.YtclkhegdbikcoaaDoor.Tl
