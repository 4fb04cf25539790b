/-
  The walk of package trie's Put.
-/
import Derived.Test.YtoakpkpdipgfoaaTrieE
namespace Go.Proofs.Ytoakpkpdipgfoaa
open Go.RowKit Go.Deep

/-- A trie in memory. -/
structure TrieS (w : World) (tb : Nat) (T : Tn) : Prop where
  wf : T.wf
  mem : Mem w T
  root : Bl 46 w tb #[ptrV T.ptr, .int .i64 (T.ents.length : Int)]
  nod : (tb :: T.blks).Nodup

theorem TrieS.below {w w' : World} {tb : Nat} {T : Tn} (h : TrieS w tb T) (g : Below w.heap.size w w') : TrieS w' tb T :=
  ⟨h.wf, h.mem.same (fun b hb => g.block b (h.mem.lt b hb)), h.root.below g, h.nod⟩

theorem TrieS.lt {w : World} {tb : Nat} {T : Tn} (h : TrieS w tb T) : ∀ b ∈ tb :: T.blks, b < w.heap.size := by
  intro b hb
  rcases List.mem_cons.1 hb with rfl | hb
  · exact h.root.lt
  · exact h.mem.lt b hb

theorem TrieS.other {w w' : World} {tb : Nat} {T : Tn} {bs : List Nat} (h : TrieS w tb T) (g : Only bs w w') (hd : ∀ b ∈ tb :: T.blks, b ∉ bs) : TrieS w' tb T :=
  ⟨h.wf, h.mem.same (fun b hb => g.block b (h.mem.lt b hb) (hd b (List.mem_cons_of_mem _ hb))), h.root.only g (hd tb (by simp)), h.nod⟩

theorem TrieS.new {w : World} {tb : Nat} (h : Bl 46 w tb #[.pointer none, .int .i64 0]) : TrieS w tb .nil := ⟨trivial, trivial, h, by simp [Tn.blks]⟩

/-- A value put for some bits: what is in the trie then. -/
structure Upd (T T' : Tn) (A : List Int) (n : Nat) (val : Int) : Prop where
  ents : ∃ a, Al a A n ∧ ∀ e, e ∈ T'.ents ↔ e = (a, n, val) ∨ (e ∈ T.ents ∧ ¬ (e.2.1 = n ∧ Al e.1 A n))
  old : (∃ e ∈ T.ents, e.2.1 = n ∧ Al e.1 A n) → T'.ents.length = T.ents.length
  fresh : (¬ ∃ e ∈ T.ents, e.2.1 = n ∧ Al e.1 A n) → T'.ents.length = T.ents.length + 1

theorem LayAt.upd {w wr : World} {tb : Nat} {cnt : Int} {k A : List Int} {n : Nat} {T : Tn} {c : List Fr} {b : Nat} {a : List Int} {v : Int} {g : Bool} {l r : Tn} (h : LayAt w wr tb cnt k n T c (.node b a n v g l r)) (ha : Al a A n) (val : Int) :
    Upd T (plug c (.node b a n val true l r)) A n val ∧ ((∃ e ∈ T.ents, e.2.1 = n ∧ Al e.1 A n) ↔ g = true) := by
  have alone := key_alone h.wf
  have alone' : ∀ e, (e ∈ entsC c ∨ e ∈ l.ents ∨ e ∈ r.ents) → ¬ (e.2.1 = n ∧ Al e.1 A n) := fun e he q => alone e he ⟨q.1, q.2.trans ha.symm⟩
  have m1 : ∀ e, e ∈ T.ents ↔ e ∈ entsC c ∨ (g = true ∧ e = (a, n, v)) ∨ e ∈ l.ents ∨ e ∈ r.ents := by
    intro e
    rw [← h.same, ents_plug]
    simp only [Tn.ents, List.mem_append]
    cases g <;> simp
  have m2 : ∀ e, e ∈ (plug c (.node b a n val true l r)).ents ↔ e ∈ entsC c ∨ e = (a, n, val) ∨ e ∈ l.ents ∨ e ∈ r.ents := by
    intro e
    rw [ents_plug]
    simp only [Tn.ents, List.mem_append]
    simp
  have hg : (∃ e ∈ T.ents, e.2.1 = n ∧ Al e.1 A n) ↔ g = true := by
    constructor
    · rintro ⟨e, he, q⟩
      rcases (m1 e).1 he with z | ⟨z, _⟩ | z | z
      · exact absurd q (alone' e (Or.inl z))
      · exact z
      · exact absurd q (alone' e (Or.inr (Or.inl z)))
      · exact absurd q (alone' e (Or.inr (Or.inr z)))
    · intro z
      exact ⟨(a, n, v), (m1 _).2 (Or.inr (Or.inl ⟨z, rfl⟩)), rfl, ha⟩
  have hl : (plug c (.node b a n val true l r)).ents.length = (entsC c).length + (1 + (l.ents.length + r.ents.length)) := by
    rw [ents_plug_len]; simp [Tn.ents]; omega
  have hl1 : T.ents.length = (entsC c).length + ((if g then 1 else 0) + (l.ents.length + r.ents.length)) := by
    rw [← h.len, ents_plug_len]; cases g <;> simp [Tn.ents] <;> omega
  refine ⟨⟨⟨a, ha, fun e => ?_⟩, fun q => ?_, fun q => ?_⟩, hg⟩
  · rw [m2, m1]
    constructor
    · rintro (z | z | z | z)
      · exact Or.inr ⟨Or.inl z, alone' e (Or.inl z)⟩
      · exact Or.inl z
      · exact Or.inr ⟨Or.inr (Or.inr (Or.inl z)), alone' e (Or.inr (Or.inl z))⟩
      · exact Or.inr ⟨Or.inr (Or.inr (Or.inr z)), alone' e (Or.inr (Or.inr z))⟩
    · rintro (z | ⟨z | ⟨_, rfl⟩ | z | z, q⟩)
      · exact Or.inr (Or.inl z)
      · exact Or.inl z
      · exact absurd ⟨rfl, ha⟩ q
      · exact Or.inr (Or.inr (Or.inl z))
      · exact Or.inr (Or.inr (Or.inr z))
  · rw [hl, hl1, hg.1 q]; simp
  · have : g = false := by
      cases g
      · rfl
      · exact absurd (hg.2 rfl) q
    rw [hl, hl1, this]; simp; omega

/-- The node's value and its mark are stored; ahead of it the count may have been. -/
theorem LayAt.fill {w wr wc : World} {tb : Nat} {cnt cnt' : Int} {k : List Int} {n : Nat} {T : Tn} {c : List Fr} {b : Nat} {a : List Int} {v : Int} {g : Bool} {l r : Tn} (h : LayAt w wr tb cnt k n T c (.node b a n v g l r)) (val : Int)
    (hc : Only [tb] wr wc) (hr : Bl 46 wc tb #[ptrV (plug c (.node b a n v g l r)).ptr, .int .i64 cnt']) (hcnt : cnt' = ((plug c (.node b a n val true l r)).ents.length : Int)) :
    TrieS ((wc.setCell ⟨b, 17, none⟩ (.int .i64 val)).setCell ⟨b, 18, none⟩ (.bool true)) tb (plug c (.node b a n val true l r)) ∧ Only (tb :: T.blks) w ((wc.setCell ⟨b, 17, none⟩ (.int .i64 val)).setCell ⟨b, 18, none⟩ (.bool true)) ∧ (∀ x ∈ (plug c (.node b a n val true l r)).blks, x ∈ T.blks ∨ w.heap.size ≤ x) := by
  have hn := h.nodC
  have hbt : b ≠ tb := fun q => by
    rw [List.nodup_cons] at hn
    exact hn.1 (by rw [← q]; simp [Tn.blks])
  have hlt : ∀ x ∈ (plug c (.node b a n v g l r)).blks, x < wr.heap.size := h.mem.lt
  have hmem := (mem_plug _ _ _).1 h.mem
  have far : ∀ x, x ≠ b → ((wc.setCell ⟨b, 17, none⟩ (.int .i64 val)).setCell ⟨b, 18, none⟩ (.bool true)).heap[x]? = wc.heap[x]? := fun x hx => by
    rw [Below.heap_setCell _ _ _ _ hx, Below.heap_setCell _ _ _ _ hx]
  have keep : ∀ x ∈ (plug c (.node b a n v g l r)).blks, x ≠ b → ((wc.setCell ⟨b, 17, none⟩ (.int .i64 val)).setCell ⟨b, 18, none⟩ (.bool true)).heap[x]? = wr.heap[x]? := fun x hx hxb => by
    rw [far x hxb, hc.block x (hlt x hx) (fun q => by
      have h2 : x = tb := by simpa using q
      subst h2
      have := h.nod
      rw [List.nodup_cons] at this
      exact this.1 hx)]
  have hperm := blks_plug c (.node b a n v g l r)
  have inC : ∀ x ∈ blksC c, x ∈ (plug c (.node b a n v g l r)).blks := fun x hx => hperm.mem_iff.2 (List.mem_append_left _ hx)
  have inT : ∀ x ∈ (Tn.node b a n v g l r).blks, x ∈ (plug c (.node b a n v g l r)).blks := fun x hx => hperm.mem_iff.2 (List.mem_append_right _ hx)
  have hn2 : (blksC c ++ (Tn.node b a n v g l r).blks).Nodup := (List.nodup_cons.1 hn).2
  have hn3 := List.nodup_append.1 hn2
  have cne : ∀ x ∈ blksC c, x ≠ b := fun x hx => hn3.2.2 x hx b (by simp [Tn.blks])
  have hn4 : b ∉ l.blks ++ r.blks := (List.nodup_cons.1 (show (b :: (l.blks ++ r.blks)).Nodup from hn3.2.1)).1
  have b1 : Bl 56 wc b _ := hmem.2.1.only hc (by simpa using hbt)
  have b2 := (b1.set 17 (.int .i64 val)).set 18 (.bool true)
  have e1 : (plug c (.node b a n val true l r)).blks.Perm (plug c (.node b a n v g l r)).blks := (blks_plug c _).trans hperm.symm
  refine ⟨⟨wf_swap h.wf (wf_sub h.wf).1 (fun x hx f hf => (wf_sub h.wf).2 f hf x hx), (mem_plug _ _ _).2 ⟨hmem.1.same (fun x hx => keep x (inC x hx) (cne x hx)), b2, hmem.2.2.1.same (fun x hx => keep x (inT x (by simp [Tn.blks, hx])) (fun q => hn4 (by rw [← q]; simp [hx]))), hmem.2.2.2.same (fun x hx => keep x (inT x (by simp [Tn.blks, hx])) (fun q => hn4 (by rw [← q]; simp [hx])))⟩, ?_, ?_⟩, ?_, fun x hx => h.new x (e1.mem_iff.1 hx)⟩
  · have := hr.same (far tb (fun q => hbt q.symm))
    rw [plug_ptr] at this ⊢
    rw [← hcnt]
    exact this
  · exact (List.Perm.cons tb e1).nodup_iff.2 h.nod
  · have hbo : b ∈ tb :: T.blks ∨ w.heap.size ≤ b := by
      rcases h.new b (inT b (by simp [Tn.blks])) with q | q
      · exact Or.inl (List.mem_cons_of_mem _ q)
      · exact Or.inr q
    have h1 : Only (tb :: T.blks) w wc := h.only.trans hc (fun x hx => Or.inl (by have h2 : x = tb := (by simpa using hx); rw [h2]; simp))
    exact (h1.setCell (p := ⟨b, 17, none⟩) hbo _).setCell (p := ⟨b, 18, none⟩) hbo _

/-- What Put hands back. -/
def PutP (w : World) (tb : Nat) (T : Tn) (A : List Int) (n : Nat) (val : Int) (e : Ending) (w' : World) : Prop :=
  e = .returned .nilIface ∧ ∃ T', TrieS w' tb T' ∧ Upd T T' A n val ∧ Only (tb :: T.blks) w w' ∧ ∀ x ∈ T'.blks, x ∈ T.blks ∨ w.heap.size ≤ x

set_option maxHeartbeats 1000000 in
set_option maxRecDepth 100000 in
theorem tput_bad (tb : Nat) {x : Option Addr} {c l : Nat} (n val : Int) (w : World) (hl : l ≤ 200000000000000) (hb : 16 < l ∨ ¬ (0 ≤ n ∧ n ≤ 8 * (l : Int))) :
    Calls Try.prog 9 #[.pointer (some ⟨tb, 0, none⟩), .slice x l c, .int .i64 n, .int .i64 val] w fun e w' => e = .returned (errV 6) ∧ w = w' := by
  rw [errV_some (by decide)]
  by_cases c1 : 16 < l
  · have c1' : (16 : Int) < (l : Int) := by omega
    clear hb
    go_enter Try.func9, Try.ntmps9
    go_wp2
    go_ret
    exact ⟨rfl, rfl⟩
  · have c1' : (l : Int) ≤ 16 := by omega
    have HF := hid (rfits_at false n ((l : Int) * 8) w (decide_eq_false (by omega)))
    clear hb
    go_enter Try.func9, Try.ntmps9
    go_wp2_with (go_at_call 14; refine HF.out.mono ?_; rintro e w' ⟨rfl, rfl⟩)
    go_ret
    exact ⟨rfl, rfl⟩

set_option maxHeartbeats 2000000 in
set_option maxRecDepth 100000 in
theorem tput_good (tb : Nat) (T : Tn) {x : Option Addr} {c l : Nat} (A : List Int) (n : Nat) (val : Int) (w : World) (h : TrieS w tb T) (ha : Bys w x c A) (hl : A.length = l) (h16 : A.length ≤ 16) (hn : n ≤ 8 * A.length) (hlen : T.ents.length ≤ 1000000000) :
    Calls Try.prog 9 #[.pointer (some ⟨tb, 0, none⟩), .slice x l c, .int .i64 (n : Int), .int .i64 val] w (PutP w tb T A n val) := by
  subst hl
  have c1' : (A.length : Int) ≤ 16 := by omega
  have HF := hid (rfits_at true (n : Int) ((A.length : Int) * 8) w (decide_eq_true (by omega)))
  have HBG := hid (begin_at A (n : Int) w ha rfl h16)
  have HLY := hid fun (w1 : World) (d1 : Below w.heap.size w w1) => lay_at tb (T.ents.length : Int) (padN A) n T w1 (padN_len h16) (padN_bytes ha.2.2.1) (by omega) (h.below d1).wf (h.below d1).mem (h.below d1).root (h.below d1).nod
  have HT := hid h
  have hbl := hid h.lt
  clear h ha
  go_enter Try.func9, Try.ntmps9
  go_upto_region 4 with (first | (go_at_call 14; refine HF.out.mono ?_; rintro e w' ⟨rfl, rfl⟩) | (go_at_call 16; refine HBG.out.mono ?_; rintro e w1 ⟨rfl, d1⟩) | (go_at_call 15; refine (HLY.out _ d1).mono ?_; rintro e w2 ⟨cc, b, a, v, g, ll, rr, rfl, HL, hal⟩))
  have HL2 := hid (HL.base d1)
  have hal2 : Hid (Al a A n) := hid (fun i hi => by rw [hal i hi, padN_bit])
  clear HL hal d1 HLY HBG HF
  obtain ⟨hu, hgi⟩ := HL2.out.upd hal2.out val
  have HU := hid hu
  have nb := ((mem_plug _ _ _).1 HL2.out.mem).2.1
  have HR := hid HL2.out.root
  have y0 : w2.cell? ⟨b, 18, none⟩ = some (.bool g) := nb.cell (i := 18) rfl
  have y1 : w2.cell? ⟨b, 17, none⟩ = some (.int .i64 v) := nb.cell (i := 17) rfl
  have y2 : w2.frozen? ⟨b, 17, none⟩ = false := nb.frozen 17
  have y3 : w2.frozen? ⟨b, 18, none⟩ = false := nb.frozen 18
  have y4 : w2.cell? ⟨tb, 1, none⟩ = some (.int .i64 (T.ents.length : Int)) := HR.out.cell (i := 1) rfl
  have y5 : w2.frozen? ⟨tb, 1, none⟩ = false := HR.out.frozen 1
  have hbt : b ≠ tb := fun q => by
    have hn2 := HL2.out.nodC
    rw [List.nodup_cons] at hn2
    exact hn2.1 (by rw [← q]; simp [Tn.blks])
  have hbt2 : tb ≠ b := fun q => hbt q.symm
  have HG := hid hgi
  clear nb hu hgi
  cases g with
  | false =>
    have hnew : (plug cc (.node b a n val true ll rr)).ents.length = T.ents.length + 1 := HU.out.fresh (fun q => by have := HG.out.1 q; cases this)
    go_wp2
    go_ret
    have hf := HL2.out.fill val (wc := w2.setCell ⟨tb, 1, none⟩ (.int .i64 ((T.ents.length : Int) + 1))) ((Only.refl _ _).setCell (Or.inl (by simp)) _) (HR.out.set 1 _) (by rw [hnew]; omega)
    exact ⟨rfl, _, hf.1, HU.out, hf.2.1, hf.2.2⟩
  | true =>
    have hold : (plug cc (.node b a n val true ll rr)).ents.length = T.ents.length := HU.out.old (HG.out.2 rfl)
    go_wp2
    go_ret
    have hf := HL2.out.fill val (wc := w2) (Only.refl _ _) HR.out (by rw [hold])
    exact ⟨rfl, _, hf.1, HU.out, hf.2.1, hf.2.2⟩

end Go.Proofs.Ytoakpkpdipgfoaa
