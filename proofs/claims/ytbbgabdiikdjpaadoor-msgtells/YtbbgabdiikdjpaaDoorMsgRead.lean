/-
  The walk of Read of package wire: what is read at a place of a message is what the plain function tells; it makes its own memory, and writes nothing that was there.
-/
import Derived.Test.YtbbgabdiikdjpaaDoorMsg
import Derived.OwnWalk
namespace Go.Proofs.YtbbgabdiikdjpaaDoor
open Go.RowKit Go.Deep

/-- What is read at a place. -/
def readW (ms : List Int) (at0 : Int) : Int × List (List Int) × Nat := if at0 < 0 then (6, [], 0) else Nm.rdA ms at0.toNat at0.toNat 1

def joined (acc : List (List Int)) (behind : Nat) (r : Int × List (List Int) × Nat) : Int × List (List Int) × Nat :=
  if r.1 = 0 then (0, acc ++ r.2.1, if behind = 0 then r.2.2 else behind) else (r.1, [], 0)

theorem joined_ends (acc : List (List Int)) (behind e : Nat) (r : Int × List (List Int) × Nat) (he : ¬ e = 0) : joined acc behind (Nm.ends e r) = joined acc (if behind = 0 then e else behind) r := by
  obtain ⟨k, M, m⟩ := r
  unfold joined Nm.ends
  by_cases c : k = 0
  · simp only [if_pos c]
    by_cases b : behind = 0
    · simp [b, he]
    · simp [b]
  · simp [if_neg c]

theorem joined_ahead (acc : List (List Int)) (behind : Nat) (l : List Int) (r : Int × List (List Int) × Nat) : joined acc behind (Nm.ahead l r) = joined (acc ++ [l]) behind r := by
  obtain ⟨k, M, m⟩ := r
  unfold joined Nm.ahead
  by_cases c : k = 0
  · simp [if_pos c]
  · simp [if_neg c]

/-- Where the reading is, what it has, and that what is read is what is read from here on. -/
def RState (ms : List Int) (at0 : Int) (a low size behind : Nat) (acc : List (List Int)) : Prop :=
  (a ≤ 9223372036854775807 ∧ low ≤ 9223372036854775807 ∧ 1 ≤ size ∧ size ≤ 255 ∧ acc.length + 1 ≤ size ∧ behind ≤ 200000000000002) ∧ (∀ l ∈ acc, l.length ≤ 63) ∧ readW ms at0 = joined acc behind (Nm.rdA ms a low size)

theorem rs_start (ms : List Int) (at0 : Nat) (h : at0 ≤ 9223372036854775807) : RState ms (at0 : Int) at0 at0 1 0 [] := by
  refine ⟨⟨h, h, by omega, by omega, by simp, by omega⟩, by simp, ?_⟩
  unfold readW
  rw [if_neg (by omega), Int.toNat_natCast]
  have hn := Nm.rdA_norm ms at0 at0 1
  generalize Nm.rdA ms at0 at0 1 = r at *
  obtain ⟨k, M, m⟩ := r
  unfold joined
  by_cases c : k = 0
  · simp [c]
  · rw [if_neg c]; exact hn c

theorem rs_short {ms : List Int} {at0 : Int} {a low size behind : Nat} {acc : List (List Int)} (h : RState ms at0 a low size behind acc) (c1 : ms.length ≤ a) : readW ms at0 = (2, [], 0) := by
  rw [h.2.2, Nm.rdA_eq, if_pos c1]; rfl

theorem rs_zero {ms : List Int} {at0 : Int} {a low size behind : Nat} {acc : List (List Int)} (h : RState ms at0 a low size behind acc) (c1 : a < ms.length) (c2 : ms.getD a 0 = 0) : readW ms at0 = (0, acc, if behind = 0 then a + 1 else behind) := by
  rw [h.2.2, Nm.rdA_eq, if_neg (by omega), if_pos c2]
  simp [joined]

theorem rs_ptr {ms : List Int} {at0 : Int} {a low size behind : Nat} {acc : List (List Int)} (h : RState ms at0 a low size behind acc) (hl : ms.length ≤ 200000000000000) (c1 : a < ms.length) (c3 : 192 ≤ ms.getD a 0) :
    (¬ (tarN ms a low).1 = 0 → readW ms at0 = ((tarN ms a low).1, [], 0)) ∧ ((tarN ms a low).1 = 0 → (tarN ms a low).2 < low ∧ RState ms at0 (tarN ms a low).2 (tarN ms a low).2 size (if behind = 0 then a + 2 else behind) acc) := by
  obtain ⟨⟨h1, h2, h3, h4, h5, h6⟩, h7, h8⟩ := h
  rw [Nm.rdA_eq, if_neg (by omega), if_neg (by omega), if_pos c3] at h8
  unfold tarN
  by_cases d1 : ms.length ≤ a + 1
  · rw [if_pos d1] at h8 ⊢
    exact ⟨fun _ => h8, fun q => by simp at q⟩
  · rw [if_neg d1] at h8 ⊢
    by_cases d2 : low ≤ Nm.place ms a
    · rw [if_pos d2] at h8 ⊢
      exact ⟨fun _ => h8, fun q => by simp at q⟩
    · rw [if_neg d2] at h8 ⊢
      rw [joined_ends _ _ _ _ (by omega)] at h8
      refine ⟨fun q => absurd rfl q, fun _ => ⟨by simp only; omega, ⟨by simp only; omega, by simp only; omega, h3, h4, h5, ?_⟩, h7, h8⟩⟩
      split <;> omega

theorem rs_label {ms : List Int} {at0 : Int} {a low size behind : Nat} {acc : List (List Int)} (h : RState ms at0 a low size behind acc) (hl : ms.length ≤ 200000000000000) (hb : ∀ b ∈ ms, 0 ≤ b ∧ b ≤ 255) (c1 : a < ms.length) (c2 : ¬ ms.getD a 0 = 0) (c3 : ¬ 192 ≤ ms.getD a 0) :
    (¬ (labN ms a).1 = 0 → readW ms at0 = ((labN ms a).1, [], 0)) ∧ ((labN ms a).1 = 0 → (labN ms a).2.length ≤ 63 ∧ (255 < size + (1 + (labN ms a).2.length) → readW ms at0 = (5, [], 0)) ∧
      (¬ 255 < size + (1 + (labN ms a).2.length) → Nm.fu ms (a + (1 + (labN ms a).2.length)) low < Nm.fu ms a low ∧ RState ms at0 (a + (1 + (labN ms a).2.length)) low (size + (1 + (labN ms a).2.length)) behind (acc ++ [(labN ms a).2]))) := by
  obtain ⟨⟨h1, h2, h3, h4, h5, h6⟩, h7, h8⟩ := h
  have hx := getD_byte hb a
  rw [Nm.rdA_eq, if_neg (by omega), if_neg c2, if_neg c3] at h8
  unfold labN
  by_cases d1 : 63 < ms.getD a 0
  · rw [if_pos d1] at h8 ⊢
    exact ⟨fun _ => h8, fun q => by simp at q⟩
  · rw [if_neg d1] at h8 ⊢
    by_cases d2 : ms.length ≤ a + Nm.long ms a
    · rw [if_pos d2] at h8 ⊢
      exact ⟨fun _ => h8, fun q => by simp at q⟩
    · rw [if_neg d2] at h8 ⊢
      have hk : (Nm.cut ms (a + 1) (Nm.long ms a)).length = Nm.long ms a := Nm.cut_length (by omega)
      have hp : 1 ≤ Nm.long ms a ∧ Nm.long ms a ≤ 63 := by unfold Nm.long; omega
      have hf := Nm.fu_more ms a low (Nm.long ms a) c1
      refine ⟨fun q => absurd rfl q, fun _ => ⟨by simp only; omega, fun q => ?_, fun q => ?_⟩⟩
      · simp only [hk] at q
        rw [if_pos (by omega)] at h8
        exact h8
      · simp only [hk] at q ⊢
        rw [if_neg (by omega), joined_ahead] at h8
        rw [show a + (1 + Nm.long ms a) = a + 1 + Nm.long ms a by omega, show size + (1 + Nm.long ms a) = size + (Nm.long ms a + 1) by omega]
        refine ⟨by omega, ⟨by omega, by omega, by omega, by omega, by simp; omega, by omega⟩, fun l hl => ?_, h8⟩
        rcases List.mem_append.1 hl with r | r
        · exact h7 l r
        · rw [List.mem_singleton.1 r, hk]; omega

theorem target_at {x : Option Addr} {c l : Nat} (v : Value) (p : Nat) (ms : List Int) (a low : Nat) (w : World) (h : Bys w x c ms) (hl : ms.length = l) (ha : a < ms.length) (h0 : 192 ≤ ms.getD a 0) (hp : (tarN ms a low).2 = p) (hv : errV (tarN ms a low).1 = v) :
    Calls Tryd.prog 76 #[.slice x l c, .int .i64 (a : Int), .int .i64 (low : Int)] w fun e w' => e = .returned (.tuple #[.int .i64 (p : Int), v]) ∧ Drawn w w' := by
  subst hl hp hv; exact target_any x c ms a low w h ha h0

theorem labelAt_at {x : Option Addr} {c l : Nat} (v : Value) (s : ByteArray) (ms : List Int) (a : Nat) (w : World) (h : Bys w x c ms) (hl : ms.length = l) (ha : a < ms.length) (h0 : ¬ ms.getD a 0 = 0) (hs : strOfNums (labN ms a).2 = s) (hv : errV (labN ms a).1 = v) :
    Calls Tryd.prog 77 #[.slice x l c, .int .i64 (a : Int)] w fun e w' => e = .returned (.tuple #[.string s, v]) ∧ w = w' := by
  subst hl hs hv; exact (labelAt_any x c ms a w h ha h0).mono fun e w' ⟨a, b⟩ => ⟨a, b.symm⟩

def ReadPost (ms : List Int) (at0 : Int) (w : World) (e : Ending) (w' : World) : Prop :=
  ∃ y q, e = .returned (.tuple #[.slice y (readW ms at0).2.1.length q, .int .i64 ((readW ms at0).2.2 : Int), errV (readW ms at0).1]) ∧ Strs w' y q ((readW ms at0).2.1.map strOfNums) ∧ Below w.heap.size w w' ∧ ∀ a, y = some a → w.heap.size ≤ a.block

theorem readPost_bad {ms : List Int} {at0 : Int} {w w' : World} {k : Int} (h : readW ms at0 = (k, [], 0)) (hk : ¬ k = 0) (hb : Below w.heap.size w w') : ReadPost ms at0 w (.returned (.tuple #[.slice none 0 0, .int .i64 0, .iface 29 (.int .i64 k)])) w' := by
  unfold ReadPost
  rw [h, errV_some hk]
  exact ⟨none, 0, rfl, Strs.empty w', hb, (fun a q => by cases q)⟩

theorem readPost_good {ms : List Int} {at0 : Int} {w w' : World} {v : Value} {acc : List (List Int)} {n : Nat} {z : Int} (h : readW ms at0 = (0, acc, n)) (hz : z = (n : Int)) (hr : Rowt w' w.heap.size v acc) (hl : ∀ l ∈ acc, l.length ≤ 63) (ha : acc.length ≤ 1020) (hb : Below w.heap.size w w') : ReadPost ms at0 w (.returned (.tuple #[v, .int .i64 z, .nilIface])) w' := by
  unfold ReadPost
  rw [h, hz]
  have hf : ∀ x l c a, v = .slice x l c → x = some a → w.heap.size ≤ a.block := by
    intro x l c a hv hx
    rcases hr.2 with ⟨q, _⟩ | ⟨g, cap, cur, q, hg, _⟩
    · rw [hv] at q; cases q; cases hx
    · rw [hv] at q; cases q; cases hx; exact hg
  obtain ⟨x, c, hv, hs⟩ := rowt_strs hr (fun l q => by have := hl l q; omega) ha
  have hf2 := hf x acc.length c
  subst hv
  exact ⟨x, c, rfl, hs, hb, fun a q => hf2 a rfl q⟩

set_option maxHeartbeats 1000000 in
set_option maxRecDepth 100000 in
theorem read_neg (x : Option Addr) (c l : Nat) (ms : List Int) (at0 : Int) (w : World) (hn : at0 < 0) :
    Calls Tryd.prog 55 #[.slice x l c, .int .i64 at0] w (ReadPost ms at0 w) := by
  have e : readW ms at0 = (6, [], 0) := by unfold readW; rw [if_pos hn]
  have E := hid e
  clear e
  go_enter Tryd.func55, Tryd.ntmps55
  go_wp2
  go_ret3
  exact readPost_bad E.out (by decide) (Below.refl _ _)

set_option maxHeartbeats 1000000 in
set_option maxRecDepth 100000 in
theorem read_pos (x : Option Addr) (c : Nat) (ms : List Int) (at0 : Nat) (w : World) (h : Bys w x c ms) (h9 : at0 ≤ 9223372036854775807) :
    Calls Tryd.prog 55 #[.slice x ms.length c, .int .i64 (at0 : Int)] w (ReadPost ms (at0 : Int) w) := by
  obtain ⟨i1, gi, gz0, gz1, gz2⟩ := info_parts info_string
  have hl : ms.length ≤ 200000000000000 := h.2.1
  have hbs := h.2.2.1
  go_enter Tryd.func55, Tryd.ntmps55
  go_wp2
  go_loopw [1, 7, 8, 9, 10] (fun va vn vs vl vb wr => ∃ (a low size behind : Nat) (acc : List (List Int)), va = .int .i64 (a : Int) ∧ Rowt wr w.heap.size vn acc ∧ vs = .int .i64 (size : Int) ∧ vl = .int .i64 (low : Int) ∧ vb = .int .i64 (behind : Int) ∧ RState ms (at0 : Int) a low size behind acc ∧ Below w.heap.size w wr) (fun va _ _ vl _ _ => Nm.fu ms (intOf va).toNat (intOf vl).toNat)
  case atStart => exact ⟨at0, at0, 1, 0, [], rfl, World.ownsRow_nil _ _ _ _, rfl, rfl, rfl, rs_start ms at0 h9, Below.refl _ _⟩
  case round =>
    obtain ⟨a, low, size, behind, acc, rfl, hrow, rfl, rfl, rfl, hst, hbel⟩ := hrel
    have hB := h.below hbel
    by_cases c1 : a < ms.length
    · obtain ⟨_, _, _, hd⟩ := id hB
      rcases hd with hd | ⟨b, off, rfl, hlt, q⟩
      · rw [hd] at c1; simp at c1
      have q0 := q a c1
      clear q
      by_cases c2 : ms.getD a 0 = 0
      · have E := hid (rs_zero hst c1 c2)
        have A := hid hst.2.1
        have ST := hid hst
        rw [c2] at q0
        clear c2 hst
        by_cases c3 : behind = 0
        · subst c3
          go_wp2
          go_ret3
          exact readPost_good E.out (by simp) hrow A.out (by have := ST.out.1; omega) hbel
        · have hz : ((behind : Int) == 0) = false := beq_eq_false_iff_ne.2 (by omega)
          go_wp2
          go_ret3
          exact readPost_good E.out (by rw [if_neg c3]) hrow A.out (by have := ST.out.1; omega) hbel
      · obtain ⟨s, hs⟩ : ∃ s, ms.getD a 0 = s := ⟨_, rfl⟩
        have hx := getD_byte hbs a
        by_cases c3 : 192 ≤ ms.getD a 0
        · have R := rs_ptr hst hl c1 c3
          have C3 := hid c3
          have hz : (s != 0) = true := bne_iff_ne.2 (by rw [← hs]; exact c2)
          rw [hs] at q0 c3 hx
          obtain ⟨hx0, hx1⟩ := hx
          have hsb := hid hs
          clear hs c2 hst
          obtain ⟨p, hp⟩ : ∃ p, (tarN ms a low).2 = p := ⟨_, rfl⟩
          obtain ⟨k, hk⟩ : ∃ k, (tarN ms a low).1 = k := ⟨_, rfl⟩
          rw [hp, hk] at R
          have HP := hid hp
          have HK := hid hk
          clear hp hk
          by_cases k0 : k = 0
          · obtain ⟨R1, R2⟩ := R.2 k0
            have F := hid (Nm.fu_ptr ms a low p R1)
            have K := hid k0
            clear R R1 k0
            by_cases c4 : behind = 0
            · subst c4
              have S := hid R2
              clear R2
              go_wp2_with fail
              refine (target_at .nilIface p ms a low _ hB rfl c1 C3.out HP.out (by rw [HK.out, K.out]; rfl)).mono ?_
              rintro e w1 ⟨rfl, hd⟩
              have hrow1 : Rowt w1 w.heap.size _ acc := owns_drawn hrow hd
              have hbel1 := hbel.trans (hd.below _)
              clear hrow hbel hd hB q0
              go_wp2_with fail
              exact ⟨⟨p, p, size, a + 2, acc, rfl, hrow1, rfl, rfl, by go_num, S.out, hbel1⟩, by have := F.out; simp [intOf]; omega⟩
            · rw [if_neg c4] at R2
              have S := hid R2
              have hz : ((behind : Int) == 0) = false := beq_eq_false_iff_ne.2 (by omega)
              clear R2 c4
              go_wp2_with fail
              refine (target_at .nilIface p ms a low _ hB rfl c1 C3.out HP.out (by rw [HK.out, K.out]; rfl)).mono ?_
              rintro e w1 ⟨rfl, hd⟩
              have hrow1 : Rowt w1 w.heap.size _ acc := owns_drawn hrow hd
              have hbel1 := hbel.trans (hd.below _)
              clear hrow hbel hd hB q0
              go_wp2_with fail
              exact ⟨⟨p, p, size, behind, acc, rfl, hrow1, rfl, rfl, rfl, S.out, hbel1⟩, by have := F.out; simp [intOf]; omega⟩
          · have E := hid (R.1 k0)
            have K := hid k0
            clear R k0
            go_wp2_with fail
            refine (target_at (.iface 29 (.int .i64 k)) p ms a low _ hB rfl c1 C3.out HP.out (by rw [HK.out]; exact errV_some K.out)).mono ?_
            rintro e w1 ⟨rfl, hd⟩
            have hbel1 := hbel.trans (hd.below _)
            clear hrow hbel hd hB q0
            go_wp2_with fail
            go_ret3
            exact readPost_bad E.out K.out hbel1
        · have R := rs_label hst hl hbs c1 c2 c3
          have C2 := hid c2
          have ST := hid hst
          have hz : (s != 0) = true := bne_iff_ne.2 (by rw [← hs]; exact c2)
          rw [hs] at q0 c3 hx
          obtain ⟨hx0, hx1⟩ := hx
          have hsb := hid hs
          clear hs c2 hst
          obtain ⟨L, hL⟩ : ∃ L, (labN ms a).2 = L := ⟨_, rfl⟩
          obtain ⟨k, hk⟩ : ∃ k, (labN ms a).1 = k := ⟨_, rfl⟩
          rw [hL, hk] at R
          have HL := hid hL
          have HK := hid hk
          clear hL hk
          have hsize := strOfNums_size L
          obtain ⟨T, hT⟩ : ∃ T, strOfNums L = T := ⟨_, rfl⟩
          rw [hT] at hsize
          have HT := hid hT
          clear hT
          by_cases k0 : k = 0
          · obtain ⟨R1, R2, R3⟩ := R.2 k0
            have K := hid k0
            have hsz : size ≤ 255 := ST.out.1.2.2.2.1
            have hac : acc.length + 1 ≤ size := ST.out.1.2.2.2.2.1
            have hT63 : T.size ≤ 63 := by omega
            clear R k0
            by_cases c4 : 255 < size + (1 + L.length)
            · have E := hid (R2 c4)
              have c5 : (255 : Int) < (size : Int) + (1 + (T.size : Int)) := by omega
              clear R2 R3 c4
              go_wp2_with fail
              refine (labelAt_at .nilIface T ms a _ hB rfl c1 C2.out (by rw [HL.out]; exact HT.out) (by rw [HK.out, K.out]; rfl)).mono ?_
              rintro e w1 ⟨rfl, rfl⟩
              go_wp2_with fail
              go_ret3
              exact readPost_bad E.out (by decide) hbel
            · obtain ⟨F1, S1⟩ := R3 c4
              rw [← hsize] at F1 S1
              have F := hid F1
              have S := hid S1
              have c5 : ¬ (255 : Int) < (size : Int) + (1 + (T.size : Int)) := by omega
              clear R2 R3 c4 F1 S1
              go_wp2_with fail
              refine (labelAt_at .nilIface T ms a _ hB rfl c1 C2.out (by rw [HL.out]; exact HT.out) (by rw [HK.out, K.out]; rfl)).mono ?_
              rintro e w1 ⟨rfl, rfl⟩
              have hown : World.ownsRow _ _ _ _ _ _ _ := hrow
              go_wp2_with (at_builtin; refine wpList_append_own _ rfl _ _ 60 rfl w.heap.size 9 i1 (.string ByteArray.empty) 1 16 Tryd.underlying60 gi gz0 gz1 gz2 rfl (by decide) _ _ _ rfl (hown.alloc _) ⟨_, 0, none⟩ 1 1 [.string T] rfl rfl (cells_new _ [.string T] 9) (one_string _) (by unfold maxLen; omega) (by omega) (by have := hbel.size; simp; omega) ?_)
              intro v' w2 hown' hgrow _
              have hrow2 : Rowt w2 w.heap.size v' (acc ++ [L]) := Rowt.of hown' (by simp) (by rw [List.map_append, List.map_singleton, HT.out])
              have hbel2 := grown_below hrow hbel hbel.size (grown_alloc hgrow)
              clear hown hown' hgrow hrow hbel hB q0
              go_wp2_with fail
              exact ⟨⟨a + (1 + T.size), low, size + (1 + T.size), behind, acc ++ [L], by go_num, hrow2, by go_num, rfl, rfl, S.out, hbel2⟩, by have := F.out; simp [intOf]; first | exact this | (rw [show ((a : Int) + (1 + (L.length : Int))).toNat = a + (1 + T.size) by omega]; exact this)⟩
          · have E := hid (R.1 k0)
            have K := hid k0
            clear R k0
            go_wp2_with fail
            refine (labelAt_at (.iface 29 (.int .i64 k)) T ms a _ hB rfl c1 C2.out (by rw [HL.out]; exact HT.out) (by rw [HK.out]; exact errV_some K.out)).mono ?_
            rintro e w1 ⟨rfl, rfl⟩
            go_wp2_with fail
            go_ret3
            exact readPost_bad E.out K.out hbel
    · have E := hid (rs_short hst (by omega))
      have ha : a ≤ 9223372036854775807 := hst.1.1
      clear hst
      go_wp2
      go_ret3
      exact readPost_bad E.out (by decide) hbel

end Go.Proofs.YtbbgabdiikdjpaaDoor
