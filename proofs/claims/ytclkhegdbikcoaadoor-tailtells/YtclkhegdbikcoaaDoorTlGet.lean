/-
  The walks of lastName and Get.
-/
import Derived.Test.YtclkhegdbikcoaaDoorTlMem
namespace Go.Proofs.YtclkhegdbikcoaaDoor.Tl
open Go.RowKit Go.Deep Go.Maps

theorem check_of {L : List (List Int)} (h1 : L.all Nm.okL = true) (h2 : Nm.total L ≤ 254) : Nm.checkN L = 0 := by
  unfold Nm.checkN
  rw [if_pos h1, if_neg (by omega)]

theorem check_from {n : List ByteArray} (h : Nm.checkN (n.map Nm.bs) = 0) (i : Nat) : Nm.checkN ((n.drop i).map Nm.bs) = 0 := by
  obtain ⟨h1, h2⟩ := check_zero h
  rw [List.map_drop]
  refine check_of ?_ ?_
  · rw [List.all_eq_true] at h1 ⊢
    exact fun l hl => h1 l (List.mem_of_mem_drop hl)
  · have : Nm.total ((n.map Nm.bs).take i) + Nm.total ((n.map Nm.bs).drop i) = Nm.total (n.map Nm.bs) := by rw [← Nm.total_append, List.take_append_drop]
    omega

theorem check_len (n : List ByteArray) (h : Nm.checkN (n.map Nm.bs) = 0) : n.length ≤ 254 := by
  have h2 := (check_zero h).2
  have : ∀ L : List (List Int), L.length ≤ Nm.total L := by
    intro L
    induction L with
    | nil => simp
    | cons x l ih => rw [Nm.total_cons, List.length_cons]; omega
  have := this (n.map Nm.bs)
  rw [List.length_map] at this
  omega

/-- What lastName hands back. -/
def LastP (n : List ByteArray) (w : World) (e : Ending) (w' : World) : Prop :=
  ∃ f y d, e = .returned (.slice y (n.length - f) d) ∧ f ≤ n.length ∧ Nm.checkN ((n.drop f).map Nm.bs) = 0 ∧ (∀ j, j < f → ¬ Nm.checkN ((n.drop j).map Nm.bs) = 0) ∧ Strs w y d (n.drop f) ∧ w = w'

set_option maxHeartbeats 1000000 in
set_option maxRecDepth 100000 in
theorem lastName_any {x : Option Addr} {c l : Nat} (n : List ByteArray) (w : World) (h : Strs w x c n) (hl : n.length = l) :
    Calls Tryd.prog 17 #[.slice x l c] w (LastP n w) := by
  subst hl
  have hn : n.length ≤ 8796093022208 := h.2.1
  have hc := h.1
  have H := hid h
  clear h
  go_enter Tryd.func17, Tryd.ntmps17
  go_wp2_with fail
  go_loopw [3] (fun v wr => ∃ f : Nat, f ≤ n.length ∧ v = .int .i64 (f : Int) ∧ Nm.checkN ((n.drop f).map Nm.bs) = 0 ∧ wr = w) (fun v _ => (intOf v).toNat)
  case atStart => exact ⟨n.length, Nat.le_refl _, rfl, by rw [List.drop_length]; rfl, rfl⟩
  case round =>
    obtain ⟨f, hf, rfl, hk, rfl⟩ := hrel
    have K := hid hk
    clear hk
    by_cases c0 : 0 < f
    · obtain ⟨g, rfl⟩ : ∃ g, f = g + 1 := ⟨f - 1, by omega⟩
      have c0' : (0 : Int) < (g : Int) + 1 := by omega
      have e0 : ((g + 1 : Nat) : Int) = (g : Int) + 1 := by omega
      rw [e0]
      have hcg : ¬ c = g := by omega
      have hgc : (g : Int) ≤ (c : Int) := by omega
      have hnl : (n.drop g).length = n.length - g := by rw [List.length_drop]
      obtain ⟨b0, o0, rfl⟩ : ∃ b off, x = some ⟨b, off, none⟩ := by
        rcases H.out.2.2.2 with q | ⟨b, off, q, _⟩
        · rw [q] at hf; simp at hf
        · exact ⟨b, off, q⟩
      have HD : Hid (Strs wr (some ⟨b0, o0 + g, none⟩) (c - g) (n.drop g)) := hid (by simpa only [Option.map_some, Go.WideShapes.add_plain] using H.out.drop g (by omega))
      have HNL := hid hnl
      clear hnl
      by_cases ck : Nm.checkN ((n.drop g).map Nm.bs) = 0
      · have CK : Hid (Calls Tryd.prog 14 #[.slice (some ⟨b0, o0 + g, none⟩) (n.length - g) (c - g)] wr fun e w' => e = .returned .nilIface ∧ wr = w') := hid (check_at .nilIface (n.drop g) wr HD.out HNL.out (by rw [ck]; rfl))
        have KK := hid ck
        clear ck
        go_wp2_with fail
        refine CK.out.mono ?_
        rintro e w1 ⟨rfl, rfl⟩
        go_wp2_with fail
        exact ⟨⟨g, by omega, rfl, KK.out, by trivial⟩, by simp [intOf]⟩
      · have CK : Hid (Calls Tryd.prog 14 #[.slice (some ⟨b0, o0 + g, none⟩) (n.length - g) (c - g)] wr fun e w' => e = .returned (.iface 26 (.int .i64 (Nm.checkN ((n.drop g).map Nm.bs)))) ∧ wr = w') := hid (check_at _ (n.drop g) wr HD.out HNL.out (errV_some ck))
        have KK := hid ck
        have HG : Hid (Strs wr (some ⟨b0, o0 + (g + 1), none⟩) (c - (g + 1)) (n.drop (g + 1))) := hid (by simpa only [Option.map_some, Go.WideShapes.add_plain] using H.out.drop (g + 1) (by omega))
        have HG0 : Hid (n.length ≤ g + 1 → Strs wr (some ⟨b0, o0, none⟩) 0 (n.drop (g + 1))) := hid (fun q => H.out.none_left (g + 1) q)
        have HF : Hid (∀ j, j < g + 1 → ¬ Nm.checkN ((n.drop j).map Nm.bs) = 0) := hid (by
          intro j hj q
          apply KK.out
          have := check_from q (g - j)
          rw [List.drop_drop, show j + (g - j) = g by omega] at this
          exact this)
        clear ck
        generalize Nm.checkN ((n.drop g).map Nm.bs) = k at *
        go_wp2_with fail
        refine CK.out.mono ?_
        rintro e w1 ⟨rfl, rfl⟩
        by_cases cc : c = g + 1
        · go_wp2_with fail
          go_ret
          exact ⟨g + 1, _, _, rfl, hf, K.out, HF.out, HG0.out (by omega), rfl⟩
        · go_wp2_with fail
          go_ret
          exact ⟨g + 1, _, _, rfl, hf, K.out, HF.out, HG.out, rfl⟩
    · obtain rfl : f = 0 := by omega
      have HZ := hid (H.out.drop 0 (by omega))
      go_wp2_with fail
      go_ret
      exact ⟨0, _, _, rfl, by omega, K.out, fun j hj => by omega, by rw [List.drop_zero]; exact H.out, rfl⟩

/-- What Get tells: the value, how many labels, is there one. -/
def gv : Option (Nat × Int) → Int
  | none => 0
  | some (_, v) => v

def gn : Option (Nat × Int) → Nat
  | none => 0
  | some (n, _) => n

def gh : Option (Nat × Int) → Bool
  | none => false
  | some _ => true

def getV (x : Option (Nat × Int)) : Value := .tuple #[.int .i64 (gv x), .int .i64 (gn x : Nat), .bool (gh x)]

theorem key_step {m : List ByteArray} {i : Nat} (hi : i < m.length) (h : Nm.checkN (m.map Nm.bs) = 0) : (m.getD i ByteArray.empty).size + 1 ≤ (keyT (m.drop i)).size ∧ (keyT (m.drop i)).extract ((m.getD i ByteArray.empty).size + 1) (keyT (m.drop i)).size = keyT (m.drop (i + 1)) := by
  have hd := check_from h i
  have e : m.drop i = m.getD i ByteArray.empty :: m.drop (i + 1) := by
    rw [List.drop_eq_getElem_cons hi, List.getD_eq_getElem?_getD, List.getElem?_eq_getElem hi]
    rfl
  rw [e] at hd ⊢
  refine ⟨?_, key_next hd⟩
  rw [key_size1, List.map_cons, Nm.total_cons]
  have e : (Nm.fL (m.getD i ByteArray.empty)).length = (m.getD i ByteArray.empty).size := by unfold Nm.fL; rw [List.length_map, bs_length]
  omega

theorem label_size {n : List ByteArray} (h : Nm.checkN (n.map Nm.bs) = 0) (i : Nat) : (n.getD i ByteArray.empty).size ≤ 63 := by
  rw [List.getD_eq_getElem?_getD]
  cases q : n[i]? with
  | none => exact Nat.zero_le _
  | some s =>
    have hm : Nm.bs s ∈ n.map Nm.bs := List.mem_map.2 ⟨s, List.mem_of_getElem? q, rfl⟩
    have := of_decide_eq_true (List.all_eq_true.1 (check_zero h).1 _ hm)
    rw [bs_length] at this
    exact this.2

set_option maxHeartbeats 1000000 in
set_option maxRecDepth 100000 in
theorem tget_any {x : Option Addr} {c l : Nat} (tb mb : Nat) (E : List (List ByteArray × Int)) (n : List ByteArray) (w : World) (hT : TailS w tb mb E) (h : Strs w x c n) (hl : n.length = l) :
    Calls Tryd.prog 10 #[.pointer (some ⟨tb, 0, none⟩), .slice x l c] w fun e w' => e = .returned (getV (getT E n)) ∧ Below w.heap.size w w' := by
  subst hl
  have HT := hid hT
  have CL := hid (lastName_any n w h rfl)
  clear hT h
  go_enter Tryd.func10, Tryd.ntmps10
  go_wp2_with (go_at_call 17; refine CL.out.mono ?_; rintro e w1 ⟨f, y, d, rfl, hf, hck, hno, hs, rfl⟩)
  have hE : ∀ e ∈ E, Nm.checkN (e.1.map Nm.bs) = 0 := by obtain ⟨_, _, _, _, _, _, _, hE, _⟩ := HT.out.mp; exact hE
  have HG : Hid (getT E n = getT E (n.drop f)) := hid (getT_from hf (fun j hj => valT_bad hE (hno j hj)))
  have hml : (n.drop f).length = n.length - f := by rw [List.length_drop]
  obtain ⟨m, hm⟩ : ∃ m, n.drop f = m := ⟨_, rfl⟩
  rw [hm] at hck hs HG hml
  have HC := hid hck
  have HS := hid hs
  have hml2 : m.length ≤ 254 := check_len m hck
  obtain ⟨len, hlen⟩ : ∃ len, n.length - f = len := ⟨_, rfl⟩
  rw [hlen] at hml ⊢
  have HM := hid hml
  have hlb : len ≤ 254 := by omega
  clear hno hck hs hm hml hlen hE
  go_wp2_with fail
  refine (keyOf_any m w HS.out HM.out HC.out).mono ?_
  rintro e w2 ⟨rfl, b2⟩
  have HT2 := hid (HT.out.below b2)
  have HS2 := hid (HS.out.below b2)
  have HB := hid b2
  have c0 := HT2.out.st.cell (i := 0) rfl
  obtain ⟨en, D, hown, _, hD, _, _, _, hall⟩ := HT2.out.mp
  have HA := hid hall
  clear b2 hall
  have K0 : Hid (keyT m = keyT (m.drop 0)) := hid (by rw [List.drop_zero])
  rw [K0.out]
  go_wp2_with fail
  go_loopw [8, 21] (fun vk vi wr => ∃ i : Nat, i ≤ len ∧ vi = .int .i64 (i : Int) ∧ vk = .string (keyT (m.drop i)) ∧ getT E n = getT E (m.drop i) ∧ wr = w2) (fun _ vi _ => len - (intOf vi).toNat)
  case atStart => exact ⟨0, Nat.zero_le _, rfl, rfl, by rw [List.drop_zero]; exact HG.out, rfl⟩
  case round =>
    obtain ⟨i, hi, rfl, rfl, hg, rfl⟩ := hrel
    have HGI := hid hg
    have kd := check_from HC.out i
    have hkey := kl_of kd
    obtain ⟨hh, hat⟩ := HA.out _ kd
    have HH := hid hh
    have HAT := hid hat
    have kz := key_size kd
    clear hg hh hat kd
    by_cases ci : i < len
    · have ci' : (i : Int) < (len : Int) := by omega
      have cm : i < m.length := by rw [HM.out]; exact ci
      obtain ⟨b0, o0, rfl, hb0, q0⟩ : ∃ b off, y = some ⟨b, off, none⟩ ∧ b < wr.heap.size ∧ ∀ i, i < m.length → wr.cell? ⟨b, off + i, none⟩ = some (.string (m.getD i ByteArray.empty)) := by
        rcases HS2.out.2.2.2 with q | q
        · rw [q] at cm; simp at cm
        · exact q
      have q1 := q0 i cm
      obtain ⟨s1, s2⟩ := key_step cm HC.out
      have s3 := label_size HC.out i
      have HX := hid s2
      have HN1 : Hid (valT E (m.drop i) = none → getT E n = getT E (m.drop (i + 1))) := hid (fun q => by rw [HGI.out, getT_drop cm q])
      have HN2 : Hid (∀ v, valT E (m.drop i) = some v → getT E n = some (len - i, v)) := hid (fun v q => by rw [HGI.out, getT_here q, List.length_drop, HM.out])
      clear q0 s2 cm
      generalize m.getD i ByteArray.empty = lab at *
      cases q : valT E (m.drop i) with
      | some v =>
        have e1 := HAT.out v q
        have e2 := HN2.out v q
        have e3 := HH.out
        rw [q] at e3
        simp only [Option.isSome_some] at e3
        have HE1 := hid e1
        have HE2 := hid e2
        clear e1 e2 q
        generalize keyT (m.drop i) = kk at *
        generalize kl (m.drop i) = kq at *
        go_wp2_with (first
          | (at_lookup; refine wpList_lookup_own_ok_int _ rfl _ _ 42 rfl 9 3 .i64 law_string Tryd.underlying42 Tryd.underlying3 (zero_int _) mb en D rfl hown _ _ rfl hkey ?_; intro c hat hwc; rw [HE1.out] at hat; simp only [DataW.lit.injEq, Lit.int.injEq, true_and] at hat; subst hat)
          | fail)
        go_ret3
        refine ⟨?_, HB.out⟩
        have e5 : ((len : Int) - (i : Int)) = ((len - i : Nat) : Int) := by omega
        rw [HE2.out, e5]
        rfl
      | none =>
        have e3 := HH.out
        rw [q] at e3
        simp only [Option.isSome_none] at e3
        have HE2 := hid (HN1.out q)
        have t1 : 1 + (lab.size : Int) ≤ ((keyT (m.drop i)).size : Int) := by omega
        clear q
        obtain ⟨kn, hkn⟩ : ∃ kn, keyT (m.drop (i + 1)) = kn := ⟨_, rfl⟩
        rw [hkn] at HX
        have HKN := hid hkn
        clear hkn
        generalize keyT (m.drop i) = kk at *
        generalize kl (m.drop i) = kq at *
        go_wp2_with (first
          | (at_lookup; refine wpList_lookup_own_ok_int _ rfl _ _ 42 rfl 9 3 .i64 law_string Tryd.underlying42 Tryd.underlying3 (zero_int _) mb en D rfl hown _ _ rfl hkey ?_; intro c hat hwc; clear hat)
          | fail)
        exact ⟨⟨i + 1, by omega, by go_num, by rw [Nat.add_comm 1, HX.out, ← HKN.out], HE2.out, by trivial⟩, by simp [intOf]; omega⟩
    · have ci' : ¬ (i : Int) < (len : Int) := by omega
      obtain rfl : i = len := by omega
      have hd0 : m.drop i = [] := by rw [← HM.out, List.drop_length]
      have HD0 := hid hd0
      have c02 := c0
      clear hd0
      cases q : valT E (m.drop i) with
      | some v =>
        have HE1 := hid (HAT.out v q)
        have HE2 : Hid (getT E n = some (0, v)) := hid (by rw [HGI.out, getT_here q, HD0.out]; rfl)
        have e3 := HH.out
        rw [q] at e3
        simp only [Option.isSome_some] at e3
        clear q
        generalize keyT (m.drop i) = kk at *
        generalize kl (m.drop i) = kq at *
        go_wp2_with (first
          | (at_lookup; refine wpList_lookup_own_ok_int _ rfl _ _ 42 rfl 9 3 .i64 law_string Tryd.underlying42 Tryd.underlying3 (zero_int _) mb en D rfl hown _ _ rfl hkey ?_; intro c hat hwc; rw [HE1.out] at hat; simp only [DataW.lit.injEq, Lit.int.injEq, true_and] at hat; subst hat)
          | fail)
        go_ret3
        refine ⟨?_, HB.out⟩
        rw [HE2.out]
        rfl
      | none =>
        have e3 := HH.out
        rw [q] at e3
        simp only [Option.isSome_none] at e3
        have HE1 := hid (atKey_of_not_has e3)
        have HE2 : Hid (getT E n = none) := hid (by rw [HGI.out, HD0.out]; rw [HD0.out] at q; exact getT_none q)
        clear q
        generalize keyT (m.drop i) = kk at *
        generalize kl (m.drop i) = kq at *
        go_wp2_with (first
          | (at_lookup; refine wpList_lookup_own_ok_int _ rfl _ _ 42 rfl 9 3 .i64 law_string Tryd.underlying42 Tryd.underlying3 (zero_int _) mb en D rfl hown _ _ rfl hkey ?_; intro c hat hwc; rw [HE1.out] at hat; simp only [DataW.lit.injEq, Lit.int.injEq, true_and] at hat; subst hat)
          | fail)
        go_ret3
        refine ⟨?_, HB.out⟩
        rw [HE2.out]
        rfl

end Go.Proofs.YtclkhegdbikcoaaDoor.Tl
