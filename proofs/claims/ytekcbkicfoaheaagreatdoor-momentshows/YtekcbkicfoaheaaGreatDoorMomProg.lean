/- The program's Parse and Show of moments: they answer by momV, and by ShowIs and ShowNo. Conditions: numbers of 64 bits, texts as long as the law asks; the tables of their road. -/
import Derived.Test.YtekcbkicfoaheaaGreatDoorMomParse
import Derived.Test.YtekcbkicfoaheaaGreatDoorMomShP2
namespace Go.Proofs.YtekcbkicfoaheaaGreatDoor
open Go.RowKit

/-- The tables of the road. -/
def Tabs (w : World) : Prop := ReadTabs w ∧ Tens w
theorem Tabs.below {w w' : World} (h : Tabs w) (hb : Below w.heap.size w w') : Tabs w' := ⟨h.1.below hb, h.2.below hb⟩
theorem Tabs.show {w : World} (h : Tabs w) : ShowTabs w := ⟨h.1.2, h.2⟩

theorem momParse_any (kind : Int) (s : ByteArray) (w : World) (hs : s.size ≤ 100000) (hT : Tabs w) :
    Calls Tryz.prog 9 #[.int .i64 kind, .string s] w fun e w' => e = .returned (.tuple #[.int .i64 (momV kind s.data.toList).1, .int .i64 (momV kind s.data.toList).2]) ∧ Below w.heap.size w w' := momParse_read kind s w hs hT.1

set_option maxHeartbeats 1000000 in
theorem show_of1 (n : Int) (t : ByteArray) (c : Int) (w : World) (h : Calls Tryz.prog 20 #[.int .i64 n] w fun e w' => e = .returned (.tuple #[.string t, .int .i64 c]) ∧ Below w.heap.size w w') :
    Calls Tryz.prog 11 #[.int .i64 1, .int .i64 n] w fun e w' => e = .returned (.tuple #[.string t, .int .i64 c]) ∧ Below w.heap.size w w' := by
  have H := hide h
  clear h
  go_enter Tryz.func11, Tryz.ntmps11
  go_wp2_with fail
  refine H.out.mono ?_
  rintro e v ⟨rfl, b1⟩
  go_wp2_with fail
  go_ret2
  exact ⟨rfl, b1⟩

set_option maxHeartbeats 1000000 in
theorem show_of2 (n : Int) (t : ByteArray) (c : Int) (w : World) (h : Calls Tryz.prog 21 #[.int .i64 n] w fun e w' => e = .returned (.tuple #[.string t, .int .i64 c]) ∧ Below w.heap.size w w') :
    Calls Tryz.prog 11 #[.int .i64 2, .int .i64 n] w fun e w' => e = .returned (.tuple #[.string t, .int .i64 c]) ∧ Below w.heap.size w w' := by
  have H := hide h
  clear h
  go_enter Tryz.func11, Tryz.ntmps11
  go_wp2_with fail
  refine H.out.mono ?_
  rintro e v ⟨rfl, b1⟩
  go_wp2_with fail
  go_ret2
  exact ⟨rfl, b1⟩

set_option maxHeartbeats 1000000 in
theorem show_of3 (n : Int) (t : ByteArray) (c : Int) (w : World) (h : Calls Tryz.prog 22 #[.int .i64 n] w fun e w' => e = .returned (.tuple #[.string t, .int .i64 c]) ∧ Below w.heap.size w w') :
    Calls Tryz.prog 11 #[.int .i64 3, .int .i64 n] w fun e w' => e = .returned (.tuple #[.string t, .int .i64 c]) ∧ Below w.heap.size w w' := by
  have H := hide h
  clear h
  go_enter Tryz.func11, Tryz.ntmps11
  go_wp2_with fail
  refine H.out.mono ?_
  rintro e v ⟨rfl, b1⟩
  go_wp2_with fail
  go_ret2
  exact ⟨rfl, b1⟩

set_option maxHeartbeats 1000000 in
theorem show_of4 (n : Int) (t : ByteArray) (c : Int) (w : World) (h : Calls Tryz.prog 23 #[.int .i64 n] w fun e w' => e = .returned (.tuple #[.string t, .int .i64 c]) ∧ Below w.heap.size w w') :
    Calls Tryz.prog 11 #[.int .i64 4, .int .i64 n] w fun e w' => e = .returned (.tuple #[.string t, .int .i64 c]) ∧ Below w.heap.size w w' := by
  have H := hide h
  clear h
  go_enter Tryz.func11, Tryz.ntmps11
  go_wp2_with fail
  refine H.out.mono ?_
  rintro e v ⟨rfl, b1⟩
  go_wp2_with fail
  go_ret2
  exact ⟨rfl, b1⟩

set_option maxHeartbeats 1000000 in
theorem show_of5 (n : Int) (t : ByteArray) (c : Int) (w : World) (h : Calls Tryz.prog 24 #[.int .i64 n] w fun e w' => e = .returned (.tuple #[.string t, .int .i64 c]) ∧ Below w.heap.size w w') :
    Calls Tryz.prog 11 #[.int .i64 5, .int .i64 n] w fun e w' => e = .returned (.tuple #[.string t, .int .i64 c]) ∧ Below w.heap.size w w' := by
  have H := hide h
  clear h
  go_enter Tryz.func11, Tryz.ntmps11
  go_wp2_with fail
  refine H.out.mono ?_
  rintro e v ⟨rfl, b1⟩
  go_wp2_with fail
  go_ret2
  exact ⟨rfl, b1⟩

set_option maxHeartbeats 1000000 in
theorem momShow_kind (kind n : Int) (w : World) (h : kind < 1 ∨ 5 < kind) (_hT : Tabs w) :
    Calls Tryz.prog 11 #[.int .i64 kind, .int .i64 n] w fun e w' => e = .returned (.tuple #[.string ⟨#[]⟩, .int .i64 3]) ∧ Below w.heap.size w w' := by
  have k1 : (kind == 1) = false := beq_no (by omega)
  have k2 : (kind == 2) = false := beq_no (by omega)
  have k3 : (kind == 3) = false := beq_no (by omega)
  have k4 : (kind == 4) = false := beq_no (by omega)
  have k5 : (kind == 5) = false := beq_no (by omega)
  clear _hT h
  go_enter Tryz.func11, Tryz.ntmps11
  go_wp2_with fail
  go_ret2
  exact ⟨rfl, Below.refl _ _⟩

theorem momShow_yes {kind n : Int} {t : List UInt8} (h : ShowIs kind n t) (w : World) (n1 : -9223372036854775808 ≤ n) (n2 : n ≤ 9223372036854775807) (hT : Tabs w) :
    Calls Tryz.prog 11 #[.int .i64 kind, .int .i64 n] w fun e w' => e = .returned (.tuple #[.string (txt t), .int .i64 0]) ∧ Below w.heap.size w w' := by
  rcases h with ⟨rfl, k, y, m, d, hd, e, rfl⟩ | ⟨rfl, y, m, y1, y2, m1, m2, e, rfl⟩ | ⟨rfl, y, k, y1, y2, k1, k2, e, rfl⟩ | ⟨rfl, k, hk, e, rfl⟩ | ⟨rfl, k, y, m, d, r, hd, hr, e, rfl⟩
  · exact show_of1 n _ _ w (showDate_yes n k y m d w hd (by omega) (by omega) n1 n2 hT.show)
  · exact show_of2 n _ _ w (showMonth_yes n _ y m w rfl (by omega) (by omega) y1 y2 n1 n2 hT.show)
  · have hy : InWeeks (firstV y + 7 * ((k : Int) - 1)) y := by
      have := (weeks_is y).1
      exact ⟨by omega, by omega⟩
    have f := first_monday y
    exact show_of3 n _ _ w (showWeek_yes n _ y k w (by omega) (by omega) (by unfold wdayV at *; omega) hy y1 y2 (by unfold weekV; omega) n1 n2 hT.show)
  · subst e
    exact show_of4 k _ _ w (showTime_yes k w hk hT.show)
  · exact show_of5 n _ _ w (showLocal_yes n k y m d r w hd hr (by omega) (by omega) n1 n2 hT.show)
theorem momShow_no {kind n : Int} (h : ShowNo kind n) (w : World) (n1 : -9223372036854775808 ≤ n) (n2 : n ≤ 9223372036854775807) (_hT : Tabs w) :
    Calls Tryz.prog 11 #[.int .i64 kind, .int .i64 n] w fun e w' => e = .returned (.tuple #[.string ⟨#[]⟩, .int .i64 2]) ∧ Below w.heap.size w w' := by
  rcases h with ⟨rfl, h | h⟩ | ⟨rfl, h⟩ | ⟨rfl, h⟩ | ⟨rfl, h⟩ | ⟨rfl, h⟩
  · exact show_of1 n _ _ w (showDate_rest n w h n1 n2)
  · exact show_of1 n _ _ w (showDate_out n _ w rfl h n1 n2)
  · exact show_of2 n _ _ w (showMonth_no n _ w rfl h n1 n2)
  · by_cases g : firstV 1 ≤ n / 86400000 ∧ n / 86400000 < firstV 275761
    · obtain ⟨y, y1, y2, hy⟩ := inWeeks_some g.1 g.2
      by_cases h0 : n % 86400000 = 0
      · have hw : ¬ wdayV (n / 86400000) = 1 := by omega
        exact show_of3 n _ _ w (showWeek_day n _ y w rfl h0 hw hy y1 y2 n1 n2)
      · exact show_of3 n _ _ w (showWeek_rest n _ y w rfl h0 hy y1 y2 n1 n2)
    · exact show_of3 n _ _ w (showWeek_out n _ w rfl (by omega) n1 n2)
  · exact show_of4 n _ _ w (showTime_no n w h)
  · exact show_of5 n _ _ w (showLocal_no n _ w rfl h n1 n2)

end Go.Proofs.YtekcbkicfoaheaaGreatDoor
