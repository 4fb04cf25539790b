/-
  The walks of package subnet: fit, check, Mask, In. The walk of subnet.Encode. The walks of the document's own answers on subnets: BitOf, Masked, Wide. The walks of the document's own answers on subnets: Wide, SubnetFault, pair, Alike, Inside.
-/
import Derived.Test.YtnbabdfcamdapaaDoorSubW
import Derived.Deep.RegionHeld3
import Derived.Test.YtnbabdfcamdapaaDoorBit
namespace Go.Proofs.YtnbabdfcamdapaaDoor
open Go.RowKit Go.Deep

theorem MaskP.bys {n : Nat} {xs : List Int} {w w' : World} (hb : Bl 5 w' w.heap.size ((maskN n xs).map (Value.int .u8)).toArray) (hbs : ∀ x ∈ xs, 0 ≤ x ∧ x ≤ 255) (hl : xs.length ≤ 200000000000000) : Bys w' (some ⟨w.heap.size, 0, none⟩) xs.length (maskN n xs) := by
  refine ⟨by rw [maskN_len]; exact Nat.le_refl _, by rw [maskN_len]; exact hl, maskN_bytes n hbs, Or.inr ⟨w.heap.size, 0, rfl, hb.lt, fun i hi => ?_⟩⟩
  rw [Nat.zero_add]
  refine hb.cell ?_
  simp [List.getD_eq_getElem?_getD, List.getElem?_eq_getElem hi]

theorem wide_small (f : Int) : wideN f ≤ 16 := by unfold wideN; split <;> (try split) <;> omega

end Go.Proofs.YtnbabdfcamdapaaDoor

namespace Go.Proofs.YtnbabdfcamdapaaDoor
open Go.RowKit Go.Deep

theorem rowb_fresh {w : World} {B : Nat} {v : Value} {xs : List Int} (h : Rowb w B v xs) (hp : 0 < xs.length) (hl : xs.length ≤ 200000000000000) (hb : ∀ b ∈ xs, 0 ≤ b ∧ b ≤ 255) :
    ∃ b o c, v = .slice (some ⟨b, o, none⟩) xs.length c ∧ Bys w (some ⟨b, o, none⟩) c xs ∧ B ≤ b := by
  have h0 := h
  rcases h.2 with ⟨rfl, h4⟩ | ⟨g, cap, cur, rfl, hg, _⟩
  · omega
  · obtain ⟨x, c, e, hs⟩ := rowb_bys h0 hl hb
    cases e
    exact ⟨_, _, _, rfl, hs, hg⟩

theorem rowb_under {w w' : World} {B : Nat} {v : Value} {xs : List Int} (h : Rowb w B v xs) (k : Below w.heap.size w w') : Rowb w' B v xs := by
  have g : w.grownBy w' none := ⟨k.os, k.tape, k.output, k.size, fun j hj _ => k.block j hj⟩
  refine World.ownsRow.kept h g ?_
  cases v.ownBlock
  · exact Or.inl rfl
  · right; intro q; cases q

/-- Bytes appended to a row of the call's own, as a step of a region that draws. -/
theorem step_append_bys {w : World} {ops : Array Oper} {o : Oper} {a : Act} {K : Act → World → Prop} {Q : Exit → Act → World → Prop} {E : Prop} (hgd : o.guard = none) (sl x : Operand)
    (ho : o.op = .call { callee := .builtin .append, args := #[sl, x], argTypes := #[24, 24] }) (B : Nat) (v : Value) (xs : List Int) (hs : a.eval sl = v) (hown : Rowb w B v xs) (ad : Addr) (m c : Nat) (D : List Int) (hm : D.length = m) (hx : a.eval x = .slice (some ad) m c)
    (hn : ∀ j u, (D.map (Value.int .u8))[j]? = some u → w.cell? (ad.add j) = some u) (hl : xs.length + D.length ≤ 200000000000000) (hB : B ≤ w.heap.size)
    (h : ∀ v' w', Rowb w' B v' (xs ++ D) → w.grownBy w' v.ownBlock → K (a.put o.dst v') w') :
    if Region.wanted o (yielded ops a.tmps) = true then Oper.wp Tryd.prog o a w K Q else E := by
  have hw : Region.wanted o (yielded ops a.tmps) = true := by simp [Region.wanted, hgd]
  rw [if_pos hw]
  obtain ⟨i0, hi, hz0, hz1, hz2⟩ := info_of_byte
  subst hm
  obtain ⟨v', w', hr, hown', hgr, _⟩ := run_append_own_wide (P := Tryd.prog) w B 24 o.type 5 i0 (.int .u8 0) 1 1 Tryd.underlying24 hi hz0 hz1 hz2 rfl (by decide) v xs.length (xs.map (Value.int .u8)) hown ad D.length c (D.map (Value.int .u8)) (by simp) hn (one_cells D) (by unfold maxLen; omega) (by omega) hB
  unfold Oper.wp execOp
  simp only [ho, resolve, invoke, builtin, Sem.run_bind, Sem.run_pure, Result.andThen_ok, List.map_toArray, List.map_cons, List.map_nil, hs, hx, hr]
  exact h v' w' (Rowb.of hown' (by simp) (by simp)) hgr

/-- What Encode hands back. -/
def EncP (s : Sn) (w : World) (e : Ending) (w' : World) : Prop :=
  ∃ b o c, e = .returned (.tuple #[.slice (some ⟨b, o, none⟩) (encB s).length c, .nilIface]) ∧ Bys w' (some ⟨b, o, none⟩) c (encB s) ∧ w.heap.size ≤ b ∧ Below w.heap.size w w'

theorem encB_bytes {s : Sn} (h : snE s = 0) (hb : ∀ b ∈ s.A, 0 ≤ b ∧ b ≤ 255) : ∀ b ∈ encB s, 0 ≤ b ∧ b ≤ 255 := by
  obtain ⟨hfam, _, hf⟩ := snE_zero h
  have h1 := hf.1
  have h2 := hf.2
  intro b hm
  unfold encB at hm
  rw [List.mem_append, List.mem_append] at hm
  rcases hm with (hm | hm) | hm
  · simp only [twoN, List.mem_cons, List.not_mem_nil, or_false] at hm
    rcases hm with rfl | rfl <;> omega
  · simp only [List.mem_cons, List.not_mem_nil, or_false] at hm
    rcases hm with rfl | rfl <;> omega
  · exact maskN_bytes _ hb b (List.mem_of_mem_take hm)

theorem EncP.of {s : Sn} {w w' : World} {B : Nat} {v r : Value} (hb : ∀ b ∈ encB s, 0 ≤ b ∧ b ≤ 255) (h : Rowb w' B v (encB s)) (hB : w.heap.size ≤ B) (hw : Below w.heap.size w w') (hr : r = .tuple #[v, .nilIface]) (hl : (encB s).length ≤ 200000000000000) : EncP s w (.returned r) w' := by
  obtain ⟨b, o, c, rfl, hs, hBb⟩ := rowb_fresh h (by unfold encB; simp [twoN]) hl hb
  exact ⟨b, o, c, by rw [hr], hs, by omega, hw⟩

end Go.Proofs.YtnbabdfcamdapaaDoor

namespace Go.Proofs.YtnbabdfcamdapaaDoor
open Go.RowKit Go.Deep

theorem half_pow (x : Int) (a : Nat) : x / 2 ^ a / 2 = x / 2 ^ (a + 1) := by
  rw [Int.ediv_ediv_of_nonneg (by exact Int.le_of_lt (Int.pow_pos (by omega))), Int.pow_succ]

theorem div_pow_bd (x : Int) (a : Nat) (h0 : 0 ≤ x) (h1 : x ≤ 255) : 0 ≤ x / 2 ^ a ∧ x / 2 ^ a ≤ 255 := by
  have hp : (0 : Int) < 2 ^ a := Int.pow_pos (by omega)
  refine ⟨Int.ediv_nonneg h0 (Int.le_of_lt hp), ?_⟩
  have := Int.ediv_le_self (2 ^ a) h0
  omega

set_option maxHeartbeats 1000000 in
set_option maxRecDepth 100000 in
theorem bitOf_at {x : Option Addr} {c l : Nat} (i : Nat) (xs : List Int) (w : World) (h : Bys w x c xs) (hl : xs.length = l) (hi : i < 8 * xs.length) (hb : i < 4000000000000000) :
    Calls Tryd.prog 34 #[.slice x l c, .int .i64 (i : Int)] w fun e w' => e = .returned (.int .i64 (bitN xs i)) ∧ w = w' := by
  subst hl
  have hlen : xs.length ≤ 200000000000000 := h.2.1
  obtain ⟨_, _, hbs, d⟩ := h
  rcases d with d | ⟨b, off, rfl, _, q⟩
  · rw [d] at hi; simp at hi
  obtain ⟨a, ha⟩ : ∃ a, i / 8 = a := ⟨_, rfl⟩
  obtain ⟨r, hr⟩ : ∃ r, i % 8 = r := ⟨_, rfl⟩
  have ea : (i : Int) / 8 = (a : Int) := by omega
  have er : (i : Int) % 8 = (r : Int) := by omega
  have hr8 : r < 8 := by omega
  have hal : a < xs.length := by omega
  have q0 := q a hal
  obtain ⟨g0, g1⟩ := getD_byte hbs a
  have HR : Hid (bitN xs i = xs.getD a 0 / 2 ^ (7 - r) % 2) := hid (by unfold bitN; rw [ha, hr])
  rw [HR.out]
  clear q HR ha hr
  generalize xs.getD a 0 = X at *
  have hai : (a : Int) < (xs.length : Int) := by omega
  go_enter Tryd.func34, Tryd.ntmps34
  go_wp2
  go_loop [5, 6] (fun t k => ∃ n : Nat, n ≤ 7 ∧ r ≤ n ∧ k = .int .i64 (n : Int) ∧ t = .int .i64 (X / 2 ^ (7 - n))) (fun _ k => (intOf k).toNat)
  case atStart => exact ⟨7, by omega, by omega, rfl, by simp⟩
  case round =>
    obtain ⟨n, hn7, hrn, rfl, rfl⟩ := hrel
    obtain ⟨d0, d1⟩ := div_pow_bd X (7 - n) g0 g1
    have HP := hid (half_pow X (7 - n))
    by_cases hlt : r < n
    · generalize hY : X / 2 ^ (7 - n) = Y at *
      go_wp2
      go_round
      case rel => exact ⟨n - 1, by omega, by omega, by go_num, by rw [HP.out, show 7 - n + 1 = 7 - (n - 1) by omega]⟩
      case measure => simp [intOf]; omega
    · obtain rfl : n = r := by omega
      generalize hY : X / 2 ^ (7 - n) = Y at *
      have HY := hid hY
      clear hY
      go_wp2
      go_ret
      exact ⟨ret_int (by rw [HY.out]), rfl⟩

theorem bit_top0 : ∀ (x : Fin 256) (c : Fin 9) (k : Fin 8), topB c.val (x.val : Int) / 2 ^ (7 - k.val) = 2 * (topB c.val (x.val : Int) / 2 ^ (8 - k.val)) + if k.val < c.val then (x.val : Int) / 2 ^ (7 - k.val) % 2 else 0 := by decide +kernel

theorem bit_top (x : Int) (c k : Nat) (h0 : 0 ≤ x) (h1 : x ≤ 255) (hc : c ≤ 8) (hk : k < 8) : topB c x / 2 ^ (7 - k) = 2 * (topB c x / 2 ^ (8 - k)) + if k < c then x / 2 ^ (7 - k) % 2 else 0 := by
  have := bit_top0 ⟨x.toNat, by omega⟩ ⟨c, by omega⟩ ⟨k, hk⟩
  simp only at this
  rwa [show ((x.toNat : Nat) : Int) = x by omega] at this

/-- What Masked hands back. -/
def MaskR (n : Nat) (xs : List Int) (w : World) (e : Ending) (w' : World) : Prop :=
  ∃ v, e = .returned v ∧ Rowb w' w.heap.size v (maskN n xs) ∧ Below w.heap.size w w'

theorem mask_next {n i : Nat} {xs : List Int} (hi : i < xs.length) : (maskN n xs).take (i + 1) = (maskN n xs).take i ++ [topB (min 8 (n - 8 * i)) (xs.getD i 0)] := by
  rw [← maskN_getD]
  exact take_snoc (by rw [maskN_len]; exact hi)

end Go.Proofs.YtnbabdfcamdapaaDoor

namespace Go.Proofs.YtnbabdfcamdapaaDoor
open Go.RowKit Go.Deep

theorem top_of_bits {x y : Int} {c : Nat} (hx : 0 ≤ x ∧ x ≤ 255) (hy : 0 ≤ y ∧ y ≤ 255) (hc : c ≤ 8) (h : ∀ k, k < c → x / 2 ^ (7 - k) % 2 = y / 2 ^ (7 - k) % 2) : topB c x = topB c y := by
  have tx := topB_byte c x hx.1 hx.2
  have ty := topB_byte c y hy.1 hy.2
  have key : ∀ k, k ≤ 8 → topB c x / 2 ^ (8 - k) = topB c y / 2 ^ (8 - k) := by
    intro k
    induction k with
    | zero =>
      intro _
      rw [Int.ediv_eq_zero_of_lt tx.1 (by omega), Int.ediv_eq_zero_of_lt ty.1 (by omega)]
    | succ k ih =>
      intro hk
      have i1 := ih (by omega)
      rw [show 8 - (k + 1) = 7 - k by omega, bit_top x c k hx.1 hx.2 hc (by omega), bit_top y c k hy.1 hy.2 hc (by omega), i1]
      by_cases q : k < c
      · rw [if_pos q, if_pos q, h k q]
      · rw [if_neg q, if_neg q]
  have := key 8 (Nat.le_refl _)
  simpa using this

theorem bits_of_top {x y : Int} {c k : Nat} (hx : 0 ≤ x ∧ x ≤ 255) (hy : 0 ≤ y ∧ y ≤ 255) (hc : c ≤ 8) (h : topB c x = topB c y) (hk : k < c) : x / 2 ^ (7 - k) % 2 = y / 2 ^ (7 - k) % 2 := by
  have h1 := bit_top x c k hx.1 hx.2 hc (by omega)
  have h2 := bit_top y c k hy.1 hy.2 hc (by omega)
  rw [if_pos hk] at h1 h2
  rw [h] at h1
  omega

theorem alike_mask {a b : List Int} {n : Nat} (ha : ∀ x ∈ a, 0 ≤ x ∧ x ≤ 255) (hb : ∀ x ∈ b, 0 ≤ x ∧ x ≤ 255) (hl : a.length = b.length) : (∀ i, i < n → bitN a i = bitN b i) ↔ maskN n a = maskN n b := by
  constructor
  · intro h
    refine list_getD (by rw [maskN_len, maskN_len, hl]) fun j _ => ?_
    rw [maskN_getD, maskN_getD]
    refine top_of_bits (getD_byte ha j) (getD_byte hb j) (by omega) fun k hk => ?_
    have := h (8 * j + k) (by omega)
    unfold bitN at this
    rwa [show (8 * j + k) / 8 = j by omega, show (8 * j + k) % 8 = k by omega] at this
  · intro h i hi
    have h1 : (maskN n a).getD (i / 8) 0 = (maskN n b).getD (i / 8) 0 := by rw [h]
    rw [maskN_getD, maskN_getD] at h1
    exact bits_of_top (getD_byte ha _) (getD_byte hb _) (by omega) h1 (by omega)

set_option maxHeartbeats 1000000 in
set_option maxRecDepth 100000 in
theorem alike_at {xa xb : Option Addr} {ca cb la lb : Nat} (r : Bool) (a b : List Int) (n : Nat) (w : World) (ha : Bys w xa ca a) (hb : Bys w xb cb b) (hla : a.length = la) (hlb : b.length = lb) (hna : n ≤ 8 * a.length) (hnb : n ≤ 8 * b.length) (hr : r = true ↔ ∀ i, i < n → bitN a i = bitN b i) :
    Calls Tryd.prog 23 #[.slice xa la ca, .slice xb lb cb, .int .i64 (n : Int)] w fun e w' => e = .returned (.bool r) ∧ w = w' := by
  have h1 : a.length ≤ 200000000000000 := ha.2.1
  have HR := hid hr
  clear hr
  go_enter Tryd.func23, Tryd.ntmps23
  go_wp2
  go_loop [7] (fun t => ∃ k : Nat, k ≤ n ∧ t = .int .i64 (k : Int) ∧ Hid (∀ i, i < k → bitN a i = bitN b i)) (fun t => n - (intOf t).toNat)
  case atStart => exact ⟨0, Nat.zero_le _, rfl, hid (fun i hi => absurd hi (by omega))⟩
  case round =>
    obtain ⟨k, hk, rfl, HK⟩ := hrel
    by_cases hlt : k < n
    · have A1 := hid (bitOf_at k a w ha hla (by omega) (by omega))
      have A2 := hid (bitOf_at k b w hb hlb (by omega) (by omega))
      have NX : Hid (bitN a k = bitN b k → ∀ i, i < k + 1 → bitN a i = bitN b i) := hid fun q i hi => by
        rcases Nat.lt_or_ge i k with q2 | q2
        · exact HK.out i q2
        · obtain rfl : i = k := by omega
          exact q
      have NO : Hid (¬ bitN a k = bitN b k → false = r) := hid fun q => by
        cases r
        · rfl
        · exact absurd (HR.out.1 rfl k hlt) q
      generalize bitN a k = p at *
      generalize bitN b k = q at *
      by_cases hpq : p = q
      · subst hpq
        go_wp2_with (first | (go_at_call_of 34 ca; refine A1.out.mono ?_; rintro e w' ⟨rfl, rfl⟩) | (go_at_call_of 34 cb; refine A2.out.mono ?_; rintro e w' ⟨rfl, rfl⟩))
        go_round
        case rel => exact ⟨k + 1, by omega, by go_num, hid (NX.out trivial)⟩
        case measure => simp [intOf]; omega
      · have hne : (p != q) = true := by rw [bne_iff_ne]; exact hpq
        go_wp2_with (first | (go_at_call_of 34 ca; refine A1.out.mono ?_; rintro e w' ⟨rfl, rfl⟩) | (go_at_call_of 34 cb; refine A2.out.mono ?_; rintro e w' ⟨rfl, rfl⟩))
        go_ret
        exact ⟨ret_bool (NO.out hpq), rfl⟩
    · have e : true = r := by
        obtain rfl : k = n := by omega
        exact (HR.out.2 HK.out).symm
      have E := hid e
      clear e
      go_wp2
      go_ret
      exact ⟨ret_bool E.out, rfl⟩

end Go.Proofs.YtnbabdfcamdapaaDoor
