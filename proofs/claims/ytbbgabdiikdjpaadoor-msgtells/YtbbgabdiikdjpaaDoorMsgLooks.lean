/-
  The walk of look itself.
-/
import Derived.Test.YtbbgabdiikdjpaaDoorMsgLook
namespace Go.Proofs.YtbbgabdiikdjpaaDoor
open Go.RowKit Go.Deep

def LookPost (s : List Int × Nat × Int) (w : World) (e : Ending) (w' : World) : Prop :=
  ∃ v, e = .returned (.tuple #[v, .int .i64 (s.2.1 : Int), .int .i64 s.2.2]) ∧ Rowi w' w.heap.size v s.1 ∧ Below w.heap.size w w'

def LookRel (ms : List Int) (n : List ByteArray) (starts : List Int) (w : World) (vt vc vo vi : Value) (wr : World) : Prop :=
  ∃ (k : Nat) (s : List Int × Nat × Int), k ≤ starts.length ∧ lookN ms n (starts.take k) = s ∧ vi = .int .i64 (k : Int) ∧ vc = .int .i64 (s.2.1 : Int) ∧ vo = .int .i64 s.2.2 ∧ Rowi wr w.heap.size vt s.1 ∧ Below w.heap.size w wr

set_option maxHeartbeats 2000000 in
set_option maxRecDepth 100000 in
theorem look_any {x y z : Option Addr} {c d cz : Nat} (ms starts : List Int) (n : List ByteArray) (w : World) (h : Bys w x c ms) (hz : Ints w z cz starts) (hn : Strs w y d n) (hs : starts.length ≤ 17592186044100) :
    Calls Tryd.prog 85 #[.slice x ms.length c, .slice z starts.length cz, .slice y n.length d] w (LookPost (lookN ms n starts) w) := by
  obtain ⟨i0, hi, hz0, hz1, hz2⟩ := info_of_int
  have hbs := h.2.2.1
  have hnl : n.length ≤ 8796093022208 := hn.2.1
  go_enter Tryd.func85, Tryd.ntmps85
  go_wp2_with fail
  go_loopw [6, 7, 8, 16] (fun vt vc vo vi wr => LookRel ms n starts w vt vc vo vi wr) (fun _ _ _ vi _ => starts.length - (intOf vi).toNat)
  case atStart => exact ⟨0, ([], 0, 0), Nat.zero_le _, rfl, rfl, rfl, rfl, World.ownsRow_nil _ _ _ _, Below.refl _ _⟩
  case round =>
    obtain ⟨k, s, hk, hlk, rfl, rfl, rfl, hrow, hbel⟩ := hrel
    have hB := hbel.size
    have hlen := lookN_len ms n (starts.take k)
    have hlk2 := looked ms n hbs (starts.take k)
    rw [hlk] at hlen hlk2
    have hcn : s.2.1 ≤ n.length := hlk2.2.1
    have hto : -9223372036854775808 ≤ s.2.2 ∧ s.2.2 ≤ 16383 := by
      by_cases q : s.2.1 = 0
      · have := hlk2.2.2.1 q; omega
      · have := hlk2.2.2.2 q; omega
    rw [List.length_take] at hlen
    have LK := hid hlk
    by_cases c1 : k < starts.length
    · obtain ⟨_, _, sa, da⟩ := hz.below hbel
      rcases da with da | ⟨ba, oa, rfl, _, qa⟩
      · rw [da] at c1; simp at c1
      have fa := qa k (by omega)
      have hst := getD_int sa k
      have NX := look_next ms n starts k c1
      rw [hlk] at NX
      clear qa sa hlk hlk2
      generalize starts.getD k 0 = st at *
      obtain ⟨hst0, hst1⟩ := hst
      obtain ⟨r, hr⟩ : ∃ r, readW ms st = r := ⟨_, rfl⟩
      obtain ⟨kk, L, m⟩ := r
      obtain ⟨T, cnt, to⟩ := s
      simp only at hrow hlen hcn hto
      by_cases k0 : kk = 0
      · subst k0
        obtain ⟨m0, m1, m2, m3, m4⟩ := readW_may hbs hr
        have hL : L.length ≤ 254 := by
          have h1 := (check_zero m3).2
          have h2 : L.length ≤ Nm.total L := by
            clear h1 m3 m4 NX hr
            induction L with
            | nil => simp
            | cons a l ih => rw [Nm.total_cons, List.length_cons]; omega
          omega
        have R := hid hr
        clear m3 m4 hr
        have goOn : ∀ (cnt' : Nat) (to' : Int), lookStep ms n (T, cnt, to) st = (T ++ [st], cnt', to') → lookN ms n (starts.take (k + 1)) = (T ++ [st], cnt', to') := fun _ _ q => by rw [NX, q]
        have GO := hid goOn
        clear goOn
        by_cases c2 : st ≤ 16383
        · by_cases c3 : cnt < L.length
          · have c3' : (cnt : Int) < (L.length : Int) := by omega
            cases c4 : endsN n (L.map strOfNums) with
            | true =>
              have E := hid (GO.out _ _ (look_here R.out ⟨c2, c3, c4⟩))
              have C4 := hid c4
              clear c4 NX GO
              go_wp2_with fail
              refine (read_at 0 L m ms st _ (h.below hbel) rfl hst1 R.out).mono fun e w1 hp => ?_
              obtain ⟨y1, q1, rfl, hs1, b1, fr1⟩ := readAt_new hp
              have hrow1 : Rowi w1 w.heap.size _ T := owns_kept hrow b1
              have hbel1 := grown_on hbel b1
              have hB1 := hbel1.size
              have FR := hid fr1
              have RW := hid hrow
              clear hp hrow hbel fa b1 fr1
              have hown : World.ownsRow _ _ _ _ _ _ _ := hrow1
              go_wp2_with (at_builtin; refine wpList_append_own _ rfl _ _ 89 rfl w.heap.size 3 i0 (.int .i64 0) 1 8 Tryd.underlying89 hi hz0 hz1 hz2 rfl (by decide) _ _ _ rfl (hown.alloc _) ⟨_, 0, none⟩ 1 1 [.int .i64 st] rfl rfl (cells_new _ [.int .i64 st] 3) (one_ints [st]) (by unfold maxLen; omega) (by omega) (by simp; omega) ?_)
              intro v' w2 hown' hgrow _
              have hrow2 : Rowi w2 w.heap.size v' (T ++ [st]) := Rowi.of hown' (by simp) (by simp)
              have hbel2 := grown_below hrow1 hbel1 hB1 (grown_alloc hgrow)
              have hs2 : Strs w2 y1 q1 (L.map strOfNums) := hs1.grown FR.out RW.out (grown_alloc hgrow)
              clear hown hown' hgrow hrow1 hbel1 hs1 FR RW
              go_wp2_with fail
              refine (endsWith_at true n (L.map strOfNums) _ (hn.below hbel2) hs2 rfl (by simp) (by simp; omega) C4.out).mono ?_
              rintro e w3 ⟨rfl, hd⟩
              have hrow3 : Rowi w3 w.heap.size _ (T ++ [st]) := owns_drawn hrow2 hd
              have hbel3 := hbel2.trans (hd.below _)
              clear hrow2 hbel2 hs2 hd
              go_wp2_with fail
              exact ⟨⟨k + 1, (T ++ [st], L.length, st), by omega, E.out, by go_num, rfl, rfl, hrow3, hbel3⟩, by simp [intOf]; omega⟩
            | false =>
              have E := hid (GO.out _ _ (look_far R.out (fun q => by rw [q.2.2] at c4; cases c4)))
              have C4 := hid c4
              clear c4 NX GO
              go_wp2_with fail
              refine (read_at 0 L m ms st _ (h.below hbel) rfl hst1 R.out).mono fun e w1 hp => ?_
              obtain ⟨y1, q1, rfl, hs1, b1, fr1⟩ := readAt_new hp
              have hrow1 : Rowi w1 w.heap.size _ T := owns_kept hrow b1
              have hbel1 := grown_on hbel b1
              have hB1 := hbel1.size
              have FR := hid fr1
              have RW := hid hrow
              clear hp hrow hbel fa b1 fr1
              have hown : World.ownsRow _ _ _ _ _ _ _ := hrow1
              go_wp2_with (at_builtin; refine wpList_append_own _ rfl _ _ 89 rfl w.heap.size 3 i0 (.int .i64 0) 1 8 Tryd.underlying89 hi hz0 hz1 hz2 rfl (by decide) _ _ _ rfl (hown.alloc _) ⟨_, 0, none⟩ 1 1 [.int .i64 st] rfl rfl (cells_new _ [.int .i64 st] 3) (one_ints [st]) (by unfold maxLen; omega) (by omega) (by simp; omega) ?_)
              intro v' w2 hown' hgrow _
              have hrow2 : Rowi w2 w.heap.size v' (T ++ [st]) := Rowi.of hown' (by simp) (by simp)
              have hbel2 := grown_below hrow1 hbel1 hB1 (grown_alloc hgrow)
              have hs2 : Strs w2 y1 q1 (L.map strOfNums) := hs1.grown FR.out RW.out (grown_alloc hgrow)
              clear hown hown' hgrow hrow1 hbel1 hs1 FR RW
              go_wp2_with fail
              refine (endsWith_at false n (L.map strOfNums) _ (hn.below hbel2) hs2 rfl (by simp) (by simp; omega) C4.out).mono ?_
              rintro e w3 ⟨rfl, hd⟩
              have hrow3 : Rowi w3 w.heap.size _ (T ++ [st]) := owns_drawn hrow2 hd
              have hbel3 := hbel2.trans (hd.below _)
              clear hrow2 hbel2 hs2 hd
              go_wp2_with fail
              exact ⟨⟨k + 1, (T ++ [st], cnt, to), by omega, E.out, by go_num, rfl, rfl, hrow3, hbel3⟩, by simp [intOf]; omega⟩
          · have c3' : ¬ (cnt : Int) < (L.length : Int) := by omega
            have E := hid (GO.out _ _ (look_far R.out (fun q => c3 q.2.1)))
            clear NX GO
            go_wp2_with fail
            refine (read_at 0 L m ms st _ (h.below hbel) rfl hst1 R.out).mono fun e w1 hp => ?_
            obtain ⟨y1, q1, rfl, hs1, b1, fr1⟩ := readAt_new hp
            have hrow1 : Rowi w1 w.heap.size _ T := owns_kept hrow b1
            have hbel1 := grown_on hbel b1
            have hB1 := hbel1.size
            have FR := hid fr1
            have RW := hid hrow
            clear hp hrow hbel fa b1 fr1
            have hown : World.ownsRow _ _ _ _ _ _ _ := hrow1
            go_wp2_with (at_builtin; refine wpList_append_own _ rfl _ _ 89 rfl w.heap.size 3 i0 (.int .i64 0) 1 8 Tryd.underlying89 hi hz0 hz1 hz2 rfl (by decide) _ _ _ rfl (hown.alloc _) ⟨_, 0, none⟩ 1 1 [.int .i64 st] rfl rfl (cells_new _ [.int .i64 st] 3) (one_ints [st]) (by unfold maxLen; omega) (by omega) (by simp; omega) ?_)
            intro v' w2 hown' hgrow _
            have hrow2 : Rowi w2 w.heap.size v' (T ++ [st]) := Rowi.of hown' (by simp) (by simp)
            have hbel2 := grown_below hrow1 hbel1 hB1 (grown_alloc hgrow)
            have hs2 : Strs w2 y1 q1 (L.map strOfNums) := hs1.grown FR.out RW.out (grown_alloc hgrow)
            clear hown hown' hgrow hrow1 hbel1 hs1 FR RW
            go_wp2_with fail
            exact ⟨⟨k + 1, (T ++ [st], cnt, to), by omega, E.out, by go_num, rfl, rfl, hrow2, hbel2⟩, by simp [intOf]; omega⟩
        · have E := hid (GO.out _ _ (look_far R.out (fun q => c2 q.1)))
          clear NX GO
          go_wp2_with fail
          refine (read_at 0 L m ms st _ (h.below hbel) rfl hst1 R.out).mono fun e w1 hp => ?_
          obtain ⟨y1, q1, rfl, hs1, b1, fr1⟩ := readAt_new hp
          have hrow1 : Rowi w1 w.heap.size _ T := owns_kept hrow b1
          have hbel1 := grown_on hbel b1
          have hB1 := hbel1.size
          have FR := hid fr1
          have RW := hid hrow
          clear hp hrow hbel fa b1 fr1
          have hown : World.ownsRow _ _ _ _ _ _ _ := hrow1
          go_wp2_with (at_builtin; refine wpList_append_own _ rfl _ _ 89 rfl w.heap.size 3 i0 (.int .i64 0) 1 8 Tryd.underlying89 hi hz0 hz1 hz2 rfl (by decide) _ _ _ rfl (hown.alloc _) ⟨_, 0, none⟩ 1 1 [.int .i64 st] rfl rfl (cells_new _ [.int .i64 st] 3) (one_ints [st]) (by unfold maxLen; omega) (by omega) (by simp; omega) ?_)
          intro v' w2 hown' hgrow _
          have hrow2 : Rowi w2 w.heap.size v' (T ++ [st]) := Rowi.of hown' (by simp) (by simp)
          have hbel2 := grown_below hrow1 hbel1 hB1 (grown_alloc hgrow)
          have hs2 : Strs w2 y1 q1 (L.map strOfNums) := hs1.grown FR.out RW.out (grown_alloc hgrow)
          clear hown hown' hgrow hrow1 hbel1 hs1 FR RW
          go_wp2_with fail
          exact ⟨⟨k + 1, (T ++ [st], cnt, to), by omega, E.out, by go_num, rfl, rfl, hrow2, hbel2⟩, by simp [intOf]; omega⟩
      · obtain ⟨rfl, rfl⟩ := readW_norm hr k0
        have E : Hid (lookN ms n (starts.take (k + 1)) = (T, cnt, to)) := by rw [NX]; exact look_bad hr k0
        have R := hid hr
        have K := hid k0
        clear NX hr k0
        go_wp2_with fail
        refine (read_at kk [] 0 ms st _ (h.below hbel) rfl hst1 R.out).mono fun e w1 hp => ?_
        obtain ⟨y1, q1, rfl, b1⟩ := readAt_no hp K.out
        have hrow1 : Rowi w1 w.heap.size _ T := owns_kept hrow b1
        have hbel1 := grown_on hbel b1
        clear hp hrow hbel fa b1
        go_wp2_with fail
        exact ⟨⟨k + 1, (T, cnt, to), by omega, E.out, by go_num, rfl, rfl, hrow1, hbel1⟩, by simp [intOf]; omega⟩
    · have e1 : starts.take k = starts := List.take_of_length_le (by omega)
      rw [e1] at hlk
      have E := hid hlk
      clear hlk hlk2 LK
      go_wp2_with fail
      go_ret3
      rw [E.out]
      exact ⟨_, rfl, hrow, hbel⟩

end Go.Proofs.YtbbgabdiikdjpaaDoor
