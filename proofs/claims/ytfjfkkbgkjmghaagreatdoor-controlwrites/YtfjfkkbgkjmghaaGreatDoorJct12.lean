/- What fits a base and a step. The document's Fits and Down of layer 3. The program's Lower and Same, and the document's Lower, answer by the small letters of a text, for every text. -/
import Derived.Test.YtfjfkkbgkjmghaaGreatDoorJct3

namespace Go.Proofs.YtfjfkkbgkjmghaaGreatDoor
open Go.RowKit
theorem fit_no {n base step : Int} (h : ¬ 1 ≤ step) : fitV n base step = false := decide_eq_false (fun x => h x.1)
theorem fit_is {n base step : Int} (h : 1 ≤ step) : fitV n base step = (n % step == base % step) := by
  unfold fitV
  by_cases e : n % step = base % step
  · rw [decide_eq_true ⟨h, e⟩]; simp [e]
  · rw [decide_eq_false (fun x => e x.2)]; simp [e]
theorem ret_down {n : Int} {b : Bool} {m : Int} {c : Bool} (h : n = m) (g : b = c) : Ending.returned (.tuple #[.int .i64 n, .bool b]) = .returned (.tuple #[.int .i64 m, .bool c]) := by rw [h, g]
theorem down_off {n base step : Int} (h : ¬ 1 ≤ step) : downOk n base step = false := decide_eq_false (fun x => h x.1)
theorem down_none {n base step : Int} (h : n + 9223372036854775808 < muchV n base step) : downOk n base step = false := decide_eq_false (fun x => by have := x.2; omega)
theorem down_some {n base step : Int} (h : 1 ≤ step) (h2 : muchV n base step ≤ n + 9223372036854775808) : downOk n base step = true := decide_eq_true ⟨h, h2⟩
theorem much_left {n base step : Int} : (n % step - base % step) % step = muchV n base step := (Int.sub_emod n base step).symm
end Go.Proofs.YtfjfkkbgkjmghaaGreatDoor

namespace Go.Proofs.YtfjfkkbgkjmghaaGreatDoor
open Go.RowKit
set_option maxRecDepth 100000
set_option maxHeartbeats 1000000 in
theorem refFits_any (n base step : Int) (w : World) (h1 : -9223372036854775808 ≤ n) (h2 : n ≤ 9223372036854775807) (g1 : -9223372036854775808 ≤ base) (g2 : base ≤ 9223372036854775807) (h4 : step ≤ 9223372036854775807) (h5 : -9223372036854775808 ≤ step) :
    Calls Tryz.prog 77 #[.int .i64 n, .int .i64 base, .int .i64 step] w fun e w' => e = .returned (.bool (fitV n base step)) ∧ w' = w := by
  by_cases hs : 1 ≤ step
  · have E := hide (fit_is (n := n) (base := base) hs)
    go_enter Tryz.func77, Tryz.ntmps77
    go_wp2_with fail
    refine (refLeft_any n step _ h1 h2 hs h4).mono ?_
    rintro e u1 ⟨rfl, rfl⟩
    go_wp2_with fail
    refine (refLeft_any base step _ g1 g2 hs h4).mono ?_
    rintro e u1 ⟨rfl, rfl⟩
    go_wp2_with fail
    go_ret
    exact ⟨ret_bool E.out.symm, rfl⟩
  · have E := hide (fit_no (n := n) (base := base) hs)
    have hs' : step ≤ 0 := by omega
    clear hs
    go_enter Tryz.func77, Tryz.ntmps77
    go_wp2_with fail
    go_ret
    exact ⟨ret_bool E.out.symm, rfl⟩
set_option maxHeartbeats 1000000 in
theorem refDown_any (n base step : Int) (w : World) (h1 : -9223372036854775808 ≤ n) (h2 : n ≤ 9223372036854775807) (g1 : -9223372036854775808 ≤ base) (g2 : base ≤ 9223372036854775807) (h4 : step ≤ 9223372036854775807) (h5 : -9223372036854775808 ≤ step) :
    Calls Tryz.prog 78 #[.int .i64 n, .int .i64 base, .int .i64 step] w fun e w' => e = .returned (.tuple #[.int .i64 (downV n base step), .bool (downOk n base step)]) ∧ w' = w := by
  by_cases hs : 1 ≤ step
  · have ⟨a1, a2⟩ := left_less (n := n) hs
    have ⟨b1, b2⟩ := left_less (n := base) hs
    have ⟨m1, m2⟩ := much_bounds (n := n) (base := base) hs
    have hA := fun w => refLeft_any n step w h1 h2 hs h4
    have hB := fun w => refLeft_any base step w g1 g2 hs h4
    have u1 := much_up (n := n) (base := base) hs
    have u2 := much_down (n := n) (base := base) hs
    have hy := down_some (n := n) (base := base) hs
    have hn := down_none (n := n) (base := base) (step := step)
    have hy2 := downV_yes (n := n) (base := base) (step := step)
    have hn2 := downV_no (n := n) (base := base) (step := step)
    generalize muchV n base step = m at *
    generalize n % step = a at *
    generalize base % step = b at *
    have HA := hide hA
    have HB := hide hB
    clear hA hB
    have hw : IntKind.u64.wrap (IntKind.u64.wrap n - 9223372036854775808) = n + 9223372036854775808 := by rw [IntKind.wrap_u64, IntKind.wrap_u64]; omega
    by_cases hab : b ≤ a
    · have e := u1 hab
      clear u1 u2
      by_cases hm : m ≤ n + 9223372036854775808
      · have E := hide (hy hm)
        have E2 := hide (hy2 E.out)
        clear hy hn hy2 hn2
        subst e
        go_enter Tryz.func78, Tryz.ntmps78
        go_wp2_with fail
        refine (HA.out _).mono ?_
        rintro e u1 ⟨rfl, rfl⟩
        go_wp2_with fail
        refine (HB.out _).mono ?_
        rintro e u1 ⟨rfl, rfl⟩
        go_wp2_with fail
        go_ret2
        exact ⟨ret_down E2.out.symm E.out.symm, rfl⟩
      · have E := hide (hn (by omega))
        have E2 := hide (hn2 E.out)
        clear hy hn hy2 hn2
        subst e
        go_enter Tryz.func78, Tryz.ntmps78
        go_wp2_with fail
        refine (HA.out _).mono ?_
        rintro e u1 ⟨rfl, rfl⟩
        go_wp2_with fail
        refine (HB.out _).mono ?_
        rintro e u1 ⟨rfl, rfl⟩
        go_wp2_with fail
        go_ret2
        exact ⟨ret_down E2.out.symm E.out.symm, rfl⟩
    · have e := u2 hab
      clear u1 u2
      by_cases hm : m ≤ n + 9223372036854775808
      · have E := hide (hy hm)
        have E2 := hide (hy2 E.out)
        clear hy hn hy2 hn2
        subst e
        go_enter Tryz.func78, Tryz.ntmps78
        go_wp2_with fail
        refine (HA.out _).mono ?_
        rintro e u1 ⟨rfl, rfl⟩
        go_wp2_with fail
        refine (HB.out _).mono ?_
        rintro e u1 ⟨rfl, rfl⟩
        go_wp2_with fail
        go_ret2
        exact ⟨ret_down E2.out.symm E.out.symm, rfl⟩
      · have E := hide (hn (by omega))
        have E2 := hide (hn2 E.out)
        clear hy hn hy2 hn2
        subst e
        go_enter Tryz.func78, Tryz.ntmps78
        go_wp2_with fail
        refine (HA.out _).mono ?_
        rintro e u1 ⟨rfl, rfl⟩
        go_wp2_with fail
        refine (HB.out _).mono ?_
        rintro e u1 ⟨rfl, rfl⟩
        go_wp2_with fail
        go_ret2
        exact ⟨ret_down E2.out.symm E.out.symm, rfl⟩
  · have E := hide (down_off (n := n) (base := base) hs)
    have E2 := hide (downV_no E.out)
    have hs' : step ≤ 0 := by omega
    clear hs
    go_enter Tryz.func78, Tryz.ntmps78
    go_wp2_with fail
    go_ret2
    exact ⟨ret_down E2.out.symm E.out.symm, rfl⟩
end Go.Proofs.YtfjfkkbgkjmghaaGreatDoor

namespace Go.Proofs.YtfjfkkbgkjmghaaGreatDoor
open Go.RowKit
set_option maxRecDepth 100000
theorem byteTypes : ByteTypes Tryz.prog 87 5 9 := ⟨Tryz.underlying87, Tryz.underlying5, Tryz.underlying9, by kernel_rfl⟩
/-- Behind k rounds: the first k bytes of the new row are small, the others as they were. -/
structure LowAt (w : World) (s : ByteArray) (k : Nat) (wr : World) : Prop where
  cells : ∀ j, j < s.size → wr.cell? ⟨w.heap.size, j, none⟩ = some (.int .u8 ((if j < k then lowB (byteAt s j) else byteAt s j).toNat : Int))
  free : ∀ j, j < s.size → wr.frozen? ⟨w.heap.size, j, none⟩ = false
  below : Below w.heap.size w wr
theorem lowAt_start (w : World) (s : ByteArray) : LowAt w s 0 (Lib.bytesWorld w 5 s) :=
  ⟨fun j hj => by rw [Lib.bytesWorld_cell _ _ _ _ hj]; rfl, fun j hj => bytes_free w 5 s j hj, bytes_below w 5 s⟩
theorem lowAt_here {w : World} {s : ByteArray} {k : Nat} {wr : World} (h : LowAt w s k wr) (hk : k < s.size) : wr.cell? ⟨w.heap.size, k, none⟩ = some (.int .u8 ((byteAt s k).toNat : Int)) := by
  rw [h.cells k hk, if_neg (by omega)]
theorem lowAt_yes {w : World} {s : ByteArray} {k : Nat} {wr : World} (h : LowAt w s k wr) (hk : k < s.size) (h1 : 65 ≤ (byteAt s k).toNat) (h2 : (byteAt s k).toNat ≤ 90) :
    LowAt w s (k + 1) (wr.setCell ⟨w.heap.size, k, none⟩ (.int .u8 (((byteAt s k).toNat : Int) - 65 + 97))) := by
  refine ⟨fun j hj => ?_, fun j hj => ?_, h.below.setCell (Nat.le_refl _) _⟩
  · by_cases e : j = k
    · subst e
      rw [World.cell?_setCell_same _ _ _ (lowAt_here h hk), if_pos (by omega), lowB_yes _ h1 h2]
      congr 2; omega
    · rw [World.cell?_setCell_other _ _ _ _ (fun x => e (by simpa using x.symm)), h.cells j hj]
      by_cases e2 : j < k
      · rw [if_pos e2, if_pos (by omega)]
      · rw [if_neg e2, if_neg (by omega)]
  · rw [World.frozen?_setCell]; exact h.free j hj
theorem lowAt_no {w : World} {s : ByteArray} {k : Nat} {wr : World} (h : LowAt w s k wr) (h1 : ¬ (65 ≤ (byteAt s k).toNat ∧ (byteAt s k).toNat ≤ 90)) : LowAt w s (k + 1) wr := by
  refine ⟨fun j hj => ?_, h.free, h.below⟩
  rw [h.cells j hj]
  by_cases e2 : j < k
  · rw [if_pos e2, if_pos (by omega)]
  · by_cases e : j = k
    · subst e; rw [if_neg (by omega), if_pos (by omega), lowB_no _ h1]
    · rw [if_neg e2, if_neg (by omega)]
theorem lowAt_end {w : World} {s : ByteArray} {wr : World} (h : LowAt w s s.size wr) (cap : Nat) :
    (convert 87 9 (.slice (some ⟨w.heap.size, 0, none⟩) s.size cap)).run Tryz.prog wr = .ok (.string (lowS s)) wr := by
  have hl : ((lowL s.data.toList).map fun c => (c.toNat : Int)).length = s.size := by simp [lowL]
  have := run_convert_bytes_arg (P := Tryz.prog) wr 87 5 byteTypes.sl byteTypes.el w.heap.size 0 s.size cap _ hl (fun i hi => by
    rw [Nat.zero_add, h.cells i hi, if_pos hi]
    simp [lowL, byteAt, List.getD, hi]) 9 byteTypes.str
  rw [this, strOfNums_bytes]; rfl
set_option maxHeartbeats 400000 in
theorem lower_any (s : ByteArray) (w : World) (hs : s.size ≤ maxLen) :
    Calls Tryz.prog 91 #[.string s] w fun e w' => e = .returned (.string (lowS s)) ∧ Below w.heap.size w w' := by
  unfold maxLen at hs
  have hconv := fun w => Lib.run_convert_string_bytes (P := Tryz.prog) w 9 87 5 s byteTypes.str byteTypes.sl byteTypes.el
  go_enter Tryz.func91, Tryz.ntmps91
  go_wp2
  go_loopw [10] (fun i wr => ∃ k : Nat, k ≤ s.size ∧ i = .int .i64 k ∧ LowAt w s k wr) (fun i _ => s.size - (intOf i).toNat)
  case atStart => exact ⟨0, Nat.zero_le _, rfl, lowAt_start w s⟩
  case round =>
    obtain ⟨k, hk, rfl, hl⟩ := hrel
    by_cases hlt : k < s.size
    · have hc := lowAt_here hl hlt
      have hf := hl.free k hlt
      have hb : ((byteAt s k).toNat : Int) ≤ 255 := by have := (byteAt s k).toNat_lt; omega
      have HY := hide (lowAt_yes hl hlt)
      have HN := hide (lowAt_no hl)
      go_wp2
      · go_roundw
        case rel => exact ⟨k + 1, by omega, by go_num, HY.out (by omega) (by omega)⟩
        case measure => simp [intOf]; omega
      · go_roundw
        case rel => exact ⟨k + 1, by omega, by go_num, HN.out (by omega)⟩
        case measure => simp [intOf]; omega
      · go_roundw
        case rel => exact ⟨k + 1, by omega, by go_num, HN.out (by omega)⟩
        case measure => simp [intOf]; omega
    · have e : k = s.size := by omega
      subst e
      have hend := lowAt_end hl (grownCap w s.size 0 5)
      go_wp2
      go_ret
      exact ⟨rfl, hl.below⟩

set_option maxHeartbeats 400000 in
theorem refLower_any (s : ByteArray) (w : World) (hs : s.size ≤ 70368744177663) :
    Calls Tryz.prog 80 #[.string s] w fun e w' => e = .returned (.string (lowS s)) ∧ Below w.heap.size w w' := by
  go_enter Tryz.func80, Tryz.ntmps80
  go_wp2
  go_loopw [3, 4] (fun v i wr => ∃ k : Nat, k ≤ s.size ∧ i = .int .i64 k ∧ OwnsB 5 w.heap.size wr v (lowL (s.data.toList.take k)) ∧ Below w.heap.size w wr) (fun _ i _ => s.size - (intOf i).toNat)
  case atStart => exact ⟨0, Nat.zero_le _, rfl, OwnsB.nil _ _ _, Below.refl _ _⟩
  case round =>
    obtain ⟨k, hk, rfl, hown, hb⟩ := hrel
    by_cases hlt : k < s.size
    · have hll : (lowL (s.data.toList.take k)).length ≤ k := by rw [lowL_length]; exact List.length_take_le _ _
      have HT := hide (lowL_take s k hlt)
      have hsz := hb.size
      have hbe := byteAt_eq s k hlt
      rcases (show (65 ≤ (s[k].toNat : Int) ∧ (s[k].toNat : Int) ≤ 90) ∨ (65 ≤ (s[k].toNat : Int) ∧ 90 < (s[k].toNat : Int)) ∨ (s[k].toNat : Int) < 65 by omega) with ⟨h1, h2⟩ | ⟨h1, h2⟩ | h1
      · have HV : Hid ((s[k].toNat : Int) + 32 = ((lowB (byteAt s k)).toNat : Int)) := by
          rw [← hbe, lowB_yes _ (by omega) (by omega)]; exact (Int.natCast_add _ _).symm
        clear hbe
        go_wp2_with (at_builtin; refine wpList_append_byte byteTypes wr _ rfl _ _ rfl w.heap.size _ _ (lowB (byteAt s k)) HV.out rfl hown rfl (by omega) (by omega) ?_; intro v' w' hown' hb')
        go_roundw
        case rel => exact ⟨k + 1, by omega, by go_num, by rw [HT.out]; exact hown', hb.trans hb'⟩
        case measure => simp [intOf]; omega
      · have HV : Hid ((s[k].toNat : Int) = ((lowB (byteAt s k)).toNat : Int)) := by
          rw [← hbe, lowB_no _ (by omega)]; exact rfl
        clear hbe
        go_wp2_with (at_builtin; refine wpList_append_byte byteTypes wr _ rfl _ _ rfl w.heap.size _ _ (lowB (byteAt s k)) HV.out rfl hown rfl (by omega) (by omega) ?_; intro v' w' hown' hb')
        go_roundw
        case rel => exact ⟨k + 1, by omega, by go_num, by rw [HT.out]; exact hown', hb.trans hb'⟩
        case measure => simp [intOf]; omega
      · have HV : Hid ((s[k].toNat : Int) = ((lowB (byteAt s k)).toNat : Int)) := by
          rw [← hbe, lowB_no _ (by omega)]; exact rfl
        clear hbe
        go_wp2_with (at_builtin; refine wpList_append_byte byteTypes wr _ rfl _ _ rfl w.heap.size _ _ (lowB (byteAt s k)) HV.out rfl hown rfl (by omega) (by omega) ?_; intro v' w' hown' hb')
        go_roundw
        case rel => exact ⟨k + 1, by omega, by go_num, by rw [HT.out]; exact hown', hb.trans hb'⟩
        case measure => simp [intOf]; omega
    · have e : k = s.size := by omega
      subst e
      have ht : s.data.toList.take s.size = s.data.toList := List.take_of_length_le (by simp)
      rw [ht] at hown
      have hend := hown.text byteTypes
      go_wp2
      go_ret
      exact ⟨rfl, hb⟩

set_option maxHeartbeats 400000 in
theorem same_any (a b : ByteArray) (w : World) (ha : a.size ≤ maxLen) (hb : b.size ≤ maxLen) :
    Calls Tryz.prog 164 #[.string a, .string b] w fun e w' => e = .returned (.bool ((lowS a).toList == (lowS b).toList)) ∧ Below w.heap.size w w' := by
  go_enter Tryz.func164, Tryz.ntmps164
  go_wp2_with fail
  refine (lower_any a _ ha).mono ?_
  rintro e w1 ⟨rfl, hb1⟩
  go_wp2_with fail
  refine (lower_any b _ hb).mono ?_
  rintro e w2 ⟨rfl, hb2⟩
  go_wp2_with fail
  go_ret
  exact ⟨rfl, chain hb1 hb2⟩


end Go.Proofs.YtfjfkkbgkjmghaaGreatDoor
