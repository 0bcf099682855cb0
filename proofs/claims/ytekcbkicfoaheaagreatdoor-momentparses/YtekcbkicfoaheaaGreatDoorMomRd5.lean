/- The program's reader: 'date', 'month', 'week'. Conditions: texts as long as the law asks; the library's errors of strconv hold some error or none; the table of lengths reads as the program's text lays it. -/
import Derived.Test.YtekcbkicfoaheaaGreatDoorMomRd4
import Derived.Test.YtekcbkicfoaheaaGreatDoorDayNum
namespace Go.Proofs.YtekcbkicfoaheaaGreatDoor
open Go.RowKit

theorem date_tell {l k1 k2 k3 k4 k5 : List UInt8} {b b1 b2 b3 b4 b5 b6 : Bool} {y m d v : Int} (T1 : Tell b (yrP l) y k1 b1) (S1 : Tell b1 (signP isHy k1) 0 k2 b2) (T2 : Tell b2 (twoP k2) m k3 b3) (S2 : Tell b3 (signP isHy k3) 0 k4 b4) (T3 : Tell b4 (twoP k4) d k5 b5)
    (h : Tell b5 ((numD y m d).bind fun n => some (n * 86400000, k5)) v k5 b6) : Tell b (dateP l) v k5 b6 := by
  unfold dateP
  refine Tell.bind (f := fun y l1 => (signP isHy l1).bind fun s => (twoP s.2).bind fun m => (signP isHy m.2).bind fun t => (twoP t.2).bind fun d => (numD y m.1 d.1).bind fun n => some (n * 86400000, d.2)) T1 ?_
  refine Tell.bind (f := fun _ l1 => (twoP l1).bind fun m => (signP isHy m.2).bind fun t => (twoP t.2).bind fun d => (numD y m.1 d.1).bind fun n => some (n * 86400000, d.2)) S1 ?_
  refine Tell.bind (f := fun m l1 => (signP isHy l1).bind fun t => (twoP t.2).bind fun d => (numD y m d.1).bind fun n => some (n * 86400000, d.2)) T2 ?_
  refine Tell.bind (f := fun _ l1 => (twoP l1).bind fun d => (numD y m d.1).bind fun n => some (n * 86400000, d.2)) S2 ?_
  exact Tell.bind (f := fun d l1 => (numD y m d).bind fun n => some (n * 86400000, l1)) T3 h
theorem month_tell {l k1 k2 k3 : List UInt8} {b b1 b2 b3 : Bool} {y m v : Int} {c : Bool} (T1 : Tell b (yrP l) y k1 b1) (S1 : Tell b1 (signP isHy k1) 0 k2 b2) (T2 : Tell b2 (twoP k2) m k3 b3) (hc : c = decide (0 < LenV y m)) (hv : c = true → v = (y - 1970) * 12 + (m - 1)) : Tell b (monthP l) v k3 (b3 || !c) := by
  unfold monthP
  refine Tell.bind (f := fun y l1 => (signP isHy l1).bind fun s => (twoP s.2).bind fun m => if decide (0 < LenV y m.1) = true then some ((y - 1970) * 12 + (m.1 - 1), m.2) else none) T1 ?_
  refine Tell.bind (f := fun _ l1 => (twoP l1).bind fun m => if decide (0 < LenV y m.1) = true then some ((y - 1970) * 12 + (m.1 - 1), m.2) else none) S1 ?_
  refine Tell.bind (f := fun m l1 => if decide (0 < LenV y m) = true then some ((y - 1970) * 12 + (m - 1), l1) else none) T2 ?_
  rw [← hc]
  cases c with
  | true => rw [hv rfl]; exact Tell.must
  | false => exact .inr ⟨by simp, .inr rfl⟩
theorem week_tell {l k1 k2 k3 k4 : List UInt8} {b b1 b2 b3 b4 : Bool} {y m v : Int} {c : Bool} (T1 : Tell b (yrP l) y k1 b1) (S1 : Tell b1 (signP isHy k1) 0 k2 b2) (S2 : Tell b2 (signP isW k2) 0 k3 b3) (T2 : Tell b3 (twoP k3) m k4 b4) (hc : c = decide (1 ≤ m ∧ m ≤ WeeksV y)) (hv : c = true → v = (firstV y + 7 * (m - 1)) * 86400000) : Tell b (weekP l) v k4 (b4 || !c) := by
  unfold weekP
  refine Tell.bind (f := fun y l1 => (signP isHy l1).bind fun s => (signP isW s.2).bind fun t => (twoP t.2).bind fun k => if 1 ≤ k.1 ∧ k.1 ≤ WeeksV y then some ((firstV y + 7 * (k.1 - 1)) * 86400000, k.2) else none) T1 ?_
  refine Tell.bind (f := fun _ l1 => (signP isW l1).bind fun t => (twoP t.2).bind fun k => if 1 ≤ k.1 ∧ k.1 ≤ WeeksV y then some ((firstV y + 7 * (k.1 - 1)) * 86400000, k.2) else none) S1 ?_
  refine Tell.bind (f := fun _ l1 => (twoP l1).bind fun k => if 1 ≤ k.1 ∧ k.1 ≤ WeeksV y then some ((firstV y + 7 * (k.1 - 1)) * 86400000, k.2) else none) S2 ?_
  refine Tell.bind (f := fun k l1 => if 1 ≤ k ∧ k ≤ WeeksV y then some ((firstV y + 7 * (k - 1)) * 86400000, l1) else none) T2 ?_
  by_cases g : 1 ≤ m ∧ m ≤ WeeksV y
  · rw [decide_eq_true g] at hc
    subst hc
    rw [hv rfl]
    rw [if_pos g]
    simpa using Tell.pure
  · rw [decide_eq_false g] at hc
    subst hc
    rw [if_neg g]
    exact .inr ⟨by simp, .inr rfl⟩
/-- The tables of the road of Parse. -/
def ReadTabs (w : World) : Prop := Errs w ∧ Lens w
theorem ReadTabs.below {w w' : World} (h : ReadTabs w) (hb : Below w.heap.size w w') : ReadTabs w' := ⟨h.1.below hb, h.2.below hb⟩

set_option maxHeartbeats 1000000 in
set_option maxRecDepth 100000 in
theorem date_any (w0 : World) (R : Nat) (l : List UInt8) (b : Bool) (w : World) (h : Rd w0 w R l b) (hl : l.length ≤ 1000000) (hT : ReadTabs w0) :
    Calls Tryz.prog 14 #[.pointer (some ⟨R, 0, none⟩)] w fun e w' => ∃ v k b', e = .returned (.int .i64 v) ∧ Rd w0 w' R k b' ∧ k.length ≤ 1000000 ∧ -100000000000000000 ≤ v ∧ v ≤ 100000000000000000 ∧ Hid (Tell b (dateP l) v k b') := by
  have HY := hide (rdYear_any w0 R l b w h hl hT.1)
  have HS := hide (fun l b w h hl => sign_any w0 R l b ⟨#[45]⟩ isHy w h hl signs_hy)
  have HT2 := hide (fun l b w h hl => rdTwo_any w0 R l b w h hl hT.1)
  have HL := hide (fun w (hb : Below w0.heap.size w0 w) => hT.2.below hb)
  clear h hT
  go_enter Tryz.func14, Tryz.ntmps14
  go_wp2_with fail
  refine HY.out.mono ?_
  rintro e v1 ⟨y, k1, b1, rfl, h1, hk1, y1, y2, T1⟩
  go_wp2_with fail
  refine (HS.out _ _ _ h1 hk1).mono ?_
  rintro e v2 ⟨k2, b2, rfl, h2, hk2, S1⟩
  have S1 := hide S1
  clear h1 hk1
  go_wp2_with fail
  refine (HT2.out _ _ _ h2 hk2).mono ?_
  rintro e v3 ⟨m, k3, b3, rfl, h3, hk3, m1, m2, T2⟩
  clear h2 hk2
  go_wp2_with fail
  refine (HS.out _ _ _ h3 hk3).mono ?_
  rintro e v4 ⟨k4, b4, rfl, h4, hk4, S2⟩
  have S2 := hide S2
  clear h3 hk3
  go_wp2_with fail
  refine (HT2.out _ _ _ h4 hk4).mono ?_
  rintro e v5 ⟨d, k5, b5, rfl, h5, hk5, d1, d2, T3⟩
  clear h4 hk4
  have HT := HL.out _ h5.below
  have FIN := hide (fun (v : Int) (b6 : Bool) => date_tell (v := v) (b6 := b6) T1.out S1.out T2.out S2.out T3.out)
  clear T1 S1 T2 S2 T3
  by_cases g : 1 ≤ d ∧ d ≤ LenV y m
  · have hd := day_is g.1 g.2
    have hn : numD y m d = some (newV y + aheadI y m + (d - 1)) := if_pos g
    have hb := hd.bounds
    rw [hn] at FIN
    have HN := hide (number_in _ y m d v5 hd HT)
    clear hd hn g HT
    generalize newV y + aheadI y m + (d - 1) = n at *
    go_wp2_with fail
    refine HN.out.mono ?_
    rintro e v6 ⟨rfl, rfl⟩
    go_wp2_with fail
    refine (must_any w0 R k5 b5 true _ h5).mono ?_
    rintro e v7 ⟨rfl, h6⟩
    clear h5
    go_wp2_with fail
    go_ret
    exact ⟨_, k5, _, rfl, h6, hk5, by omega, by omega, FIN.out _ _ (by simpa using Tell.pure)⟩
  · have hn : numD y m d = none := if_neg g
    rw [hn] at FIN
    have HN := hide (number_out y m d v5 (by omega) y2 (by omega) (by omega) g HT)
    clear hn g HT
    go_wp2_with fail
    refine HN.out.mono ?_
    rintro e v6 ⟨rfl, rfl⟩
    go_wp2_with fail
    refine (must_any w0 R k5 b5 false _ h5).mono ?_
    rintro e v7 ⟨rfl, h6⟩
    clear h5
    go_wp2_with fail
    go_ret
    exact ⟨_, k5, _, rfl, h6, hk5, by omega, by omega, FIN.out _ _ (.inr ⟨by simp, .inr rfl⟩)⟩

set_option maxHeartbeats 1000000 in
set_option maxRecDepth 100000 in
theorem month_any (w0 : World) (R : Nat) (l : List UInt8) (b : Bool) (w : World) (h : Rd w0 w R l b) (hl : l.length ≤ 1000000) (hT : ReadTabs w0) :
    Calls Tryz.prog 15 #[.pointer (some ⟨R, 0, none⟩)] w fun e w' => ∃ v k b', e = .returned (.int .i64 v) ∧ Rd w0 w' R k b' ∧ Hid (Tell b (monthP l) v k b') := by
  have HY := hide (rdYear_any w0 R l b w h hl hT.1)
  have HS := hide (fun l b w h hl => sign_any w0 R l b ⟨#[45]⟩ isHy w h hl signs_hy)
  have HT2 := hide (fun l b w h hl => rdTwo_any w0 R l b w h hl hT.1)
  have HL := hide (fun w (hb : Below w0.heap.size w0 w) => hT.2.below hb)
  clear h hT
  go_enter Tryz.func15, Tryz.ntmps15
  go_wp2_with fail
  refine HY.out.mono ?_
  rintro e v1 ⟨y, k1, b1, rfl, h1, hk1, y1, y2, T1⟩
  go_wp2_with fail
  refine (HS.out _ _ _ h1 hk1).mono ?_
  rintro e v2 ⟨k2, b2, rfl, h2, hk2, S1⟩
  have S1 := hide S1
  clear h1 hk1
  go_wp2_with fail
  refine (HT2.out _ _ _ h2 hk2).mono ?_
  rintro e v3 ⟨m, k3, b3, rfl, h3, hk3, m1, m2, T2⟩
  clear h2 hk2
  have HT := HL.out _ h3.below
  have FIN := hide (fun (v : Int) (c : Bool) => month_tell (v := v) (c := c) T1.out S1.out T2.out)
  have HN := hide (length_any y m v3 (by omega) y2 (by omega) (by omega) HT)
  clear T1 S1 T2 HT
  by_cases g : 0 < LenV y m
  · have hy : 1 ≤ y ∧ y ≤ 275760 := by
      by_cases hy : 1 ≤ y ∧ y ≤ 275760
      · exact hy
      · rw [year_len hy] at g; omega
    obtain ⟨ya, yb⟩ := hy
    have gd : decide (0 < LenV y m) = true := decide_eq_true g
    have F := hide (fun v => FIN.out v true gd.symm)
    clear FIN
    generalize LenV y m = n at *
    go_wp2_with fail
    refine HN.out.mono ?_
    rintro e v6 ⟨rfl, rfl⟩
    go_wp2_with fail
    refine (must_any w0 R k3 b3 true _ h3).mono ?_
    rintro e v7 ⟨rfl, h6⟩
    clear h3
    go_wp2_with fail
    go_ret
    exact ⟨_, k3, _, rfl, h6, F.out _ (fun _ => by omega)⟩
  · have g0 : LenV y m = 0 := by
      unfold LenV at g ⊢
      split
      · rename_i x
        rw [if_pos x] at g
        have := len_bounds y m
        omega
      · rfl
    have gd : decide (0 < LenV y m) = false := decide_eq_false g
    have F := hide (fun v => FIN.out v false gd.symm (fun x => by cases x))
    rw [g0] at HN
    clear FIN gd g g0
    go_wp2_with fail
    refine HN.out.mono ?_
    rintro e v6 ⟨rfl, rfl⟩
    go_wp2_with fail
    refine (must_any w0 R k3 b3 false _ h3).mono ?_
    rintro e v7 ⟨rfl, h6⟩
    clear h3
    go_wp2_with fail
    go_ret
    exact ⟨_, k3, _, rfl, h6, F.out _⟩

set_option maxHeartbeats 1000000 in
set_option maxRecDepth 100000 in
theorem week_any (w0 : World) (R : Nat) (l : List UInt8) (b : Bool) (w : World) (h : Rd w0 w R l b) (hl : l.length ≤ 1000000) (hT : ReadTabs w0) :
    Calls Tryz.prog 16 #[.pointer (some ⟨R, 0, none⟩)] w fun e w' => ∃ v k b', e = .returned (.int .i64 v) ∧ Rd w0 w' R k b' ∧ Hid (Tell b (weekP l) v k b') := by
  have HY := hide (rdYear_any w0 R l b w h hl hT.1)
  have HS := hide (fun l b w h hl => sign_any w0 R l b ⟨#[45]⟩ isHy w h hl signs_hy)
  have HW := hide (fun l b w h hl => sign_any w0 R l b ⟨#[87]⟩ isW w h hl signs_W)
  have HT2 := hide (fun l b w h hl => rdTwo_any w0 R l b w h hl hT.1)
  clear h hT
  go_enter Tryz.func16, Tryz.ntmps16
  go_wp2_with fail
  refine HY.out.mono ?_
  rintro e v1 ⟨y, k1, b1, rfl, h1, hk1, y1, y2, T1⟩
  go_wp2_with fail
  refine (HS.out _ _ _ h1 hk1).mono ?_
  rintro e v2 ⟨k2, b2, rfl, h2, hk2, S1⟩
  have S1 := hide S1
  clear h1 hk1
  go_wp2_with fail
  refine (HW.out _ _ _ h2 hk2).mono ?_
  rintro e v3 ⟨k3, b3, rfl, h3, hk3, S2⟩
  have S2 := hide S2
  clear h2 hk2
  go_wp2_with fail
  refine (HT2.out _ _ _ h3 hk3).mono ?_
  rintro e v4 ⟨m, k4, b4, rfl, h4, hk4, m1, m2, T2⟩
  clear h3 hk3
  have FIN := hide (fun (v : Int) (c : Bool) => week_tell (v := v) (c := c) T1.out S1.out S2.out T2.out)
  have HN := hide (monday_any y m v4 (by omega) (by omega))
  clear T1 S1 S2 T2
  by_cases g : 1 ≤ m ∧ m ≤ WeeksV y
  · have hy := weeks_some g
    have nb := new_bounds hy.1 (by omega : y ≤ 275762)
    have fb := first_bounds y
    have F := hide (fun v => FIN.out v true (decide_eq_true g).symm)
    rw [mon_in g] at HN
    simp only at HN
    have fb1 : -719165 ≤ firstV y := by omega
    have fb2 : firstV y ≤ 200000003 := by omega
    clear FIN g hy nb fb
    generalize firstV y = n at *
    go_wp2_with fail
    refine HN.out.mono ?_
    rintro e v6 ⟨rfl, rfl⟩
    go_wp2_with fail
    refine (must_any w0 R k4 b4 true _ h4).mono ?_
    rintro e v7 ⟨rfl, h6⟩
    clear h4
    go_wp2_with fail
    go_ret
    exact ⟨_, k4, _, rfl, h6, F.out _ (fun _ => by omega)⟩
  · have F := hide (fun v => FIN.out v false (decide_eq_false g).symm (fun x => by cases x))
    rw [mon_out g] at HN
    simp only at HN
    clear FIN g
    go_wp2_with fail
    refine HN.out.mono ?_
    rintro e v6 ⟨rfl, rfl⟩
    go_wp2_with fail
    refine (must_any w0 R k4 b4 false _ h4).mono ?_
    rintro e v7 ⟨rfl, h6⟩
    clear h4
    go_wp2_with fail
    go_ret
    exact ⟨_, k4, _, rfl, h6, F.out _⟩

end Go.Proofs.YtekcbkicfoaheaaGreatDoor
