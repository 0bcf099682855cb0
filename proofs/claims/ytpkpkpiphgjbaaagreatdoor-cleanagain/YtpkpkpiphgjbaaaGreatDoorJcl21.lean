/- Joined texts. MomParse: The program's Parse: it answers by 'momV'. Conditions: texts as long as the law asks; the tables of its road. MomSplit: The program's 'split' and 'pad': they answer by division and by padL; what lay in the world lies there still. Conditions: numbers of 64 bits; 'pad': numbers of six digits at most, the library's table of powers of ten reads as its text lays it. DayYear: The program's yearOf: the year that has a number, where years begin by a function that goes up; whatever function it is handed that answers so and leaves the world as it was. Condition: numbers of 64 bits; the function answers for years from 1 to some six digits. DayDate: The program's Date and Week: the day and the week of a number, or the error where there is none; what lay in the world lies there still. Condition: numbers of 64 bits; Date: the table of lengths reads as the program's text lays it. -/
import Derived.Laws.EntriesVeiled
import Derived.Test.YtpkpkpiphgjbaaaGreatDoorJcl20
import Derived.Test.YtpkpkpiphgjbaaaGreatDoorJcl19
import Derived.Test.YtpkpkpiphgjbaaaGreatDoorJcl2
import Derived.Test.YtpkpkpiphgjbaaaGreatDoorJcl4
import Derived.Deep.QuietTactic
import Derived.BigQuiet
import Derived.Shelf.SlSorted.Search
namespace Go.Proofs.YtpkpkpiphgjbaaaGreatDoor
open Go.RowKit
set_option maxRecDepth 100000

set_option maxHeartbeats 1000000 in
theorem isKind_no (kind : Int) (w : World) (h : ¬ (1 ≤ kind ∧ kind ≤ 5)) :
    Calls Tryz.prog 115 #[.int .i64 kind] w fun e w' => e = .returned (.bool false) ∧ w' = w := by
  rcases (show kind < 1 ∨ (1 ≤ kind ∧ 5 < kind) by omega) with g | ⟨g, g'⟩
  · clear h
    go_enter Tryz.func115, Tryz.ntmps115
    go_wp2_with fail
    go_ret
    exact ⟨rfl, rfl⟩
  · have d : decide (kind ≤ 5) = false := decide_eq_false (by omega)
    clear h
    go_enter Tryz.func115, Tryz.ntmps115
    go_wp2_with fail
    go_ret
    exact ⟨rfl, rfl⟩
set_option maxHeartbeats 1000000 in
theorem isKind_yes (kind : Int) (w : World) (g : 1 ≤ kind) (g' : kind ≤ 5) :
    Calls Tryz.prog 115 #[.int .i64 kind] w fun e w' => e = .returned (.bool true) ∧ w' = w := by
  have d : decide (kind ≤ 5) = true := decide_eq_true g'
  go_enter Tryz.func115, Tryz.ntmps115
  go_wp2_with fail
  go_ret
  exact ⟨rfl, rfl⟩

set_option maxHeartbeats 1000000 in
theorem parse_kind (kind : Int) (s : ByteArray) (w : World) (h : ¬ (1 ≤ kind ∧ kind ≤ 5)) :
    Calls Tryz.prog 76 #[.int .i64 kind, .string s] w fun e w' => e = .returned (.tuple #[.int .i64 0, .int .i64 3]) ∧ w' = w := by
  have HK := hide (fun w => isKind_no kind w h)
  clear h
  go_enter Tryz.func76, Tryz.ntmps76
  go_wp2_with fail
  refine (HK.out _).mono ?_
  rintro e v ⟨rfl, rfl⟩
  go_wp2_with fail
  go_ret2
  exact ⟨rfl, rfl⟩

/-- How Parse ends, by how the reading went. -/
theorem end_bad {p : Got} {v : Int} {k : List UInt8} (h : Tell false p v k true) : outM (fin p) = (0, 1) := by
  rcases h with ⟨_, h, _⟩ | ⟨_, h⟩
  · cases h
  · rcases h with h | h
    · cases h
    · rw [h]; rfl
theorem end_left {p : Got} {v : Int} {c : UInt8} {k : List UInt8} (h : Tell false p v (c :: k) false) : outM (fin p) = (0, 1) := by
  rcases h with ⟨_, _, h⟩ | ⟨h, _⟩
  · rw [h]; rfl
  · cases h
theorem end_good {p : Got} {v : Int} (h : Tell false p v [] false) : outM (fin p) = (v, 0) := by
  rcases h with ⟨_, _, h⟩ | ⟨h, _⟩
  · rw [h]; rfl
  · cases h

theorem ret_both {a b : Int} {p : Int × Int} (h : p = (a, b)) : Ending.returned (.tuple #[.int .i64 a, .int .i64 b]) = .returned (.tuple #[.int .i64 p.1, .int .i64 p.2]) := by rw [h]
theorem lie_fresh (w : World) (o x : Obj) : ((w.alloc o).alloc x).heap[w.heap.size + 1]? = some x := by
  show ((w.heap.push o).push x)[w.heap.size + 1]? = some x
  rw [show w.heap.size + 1 = (w.heap.push o).size by simp]
  exact Array.getElem?_push_size
theorem rd_fresh (w : World) (o : Obj) (s : ByteArray) : Rd w ((w.alloc o).alloc (.cells #[.string s, .bool false] 129)) (w.heap.size + 1) s.data.toList false :=
  ⟨by omega, lie_fresh w o _, ((Below.refl _ w).alloc (Nat.le_refl _) o).alloc (by simp) _⟩

set_option maxHeartbeats 1000000 in
set_option maxRecDepth 100000 in
theorem progParse_1 (s : ByteArray) (w : World) (hs : s.size ≤ 100000) (hT : ReadTabs w) :
    Calls Tryz.prog 76 #[.int .i64 1, .string s] w fun e w' => e = .returned (.tuple #[.int .i64 (outM (fin (dateP s.data.toList))).1, .int .i64 (outM (fin (dateP s.data.toList))).2]) ∧ Below w.heap.size w w' := by
  have HK := hide (fun w => isKind_yes 1 w (by decide) (by decide))
  have HR := hide (fun R w' h => (date_any w R s.data.toList false w' h (by simp; omega) hT).mono (fun e w'' ⟨v, k, b', he, hr, _, _, _, T⟩ => (⟨v, k, b', he, hr, T⟩ : ∃ v k b', e = Ending.returned (.int .i64 v) ∧ Rd w w'' R k b' ∧ Hid (Tell false (dateP s.data.toList) v k b'))))
  have RF := hide (fun o => rd_fresh w o s)
  clear hT hs
  generalize dateP s.data.toList = p at *
  go_enter Tryz.func76, Tryz.ntmps76
  go_wp2_with fail
  refine (HK.out _).mono ?_
  rintro e v ⟨rfl, rfl⟩
  go_wp2_with fail
  refine (HR.out _ _ (RF.out _)).mono ?_
  rintro e v1 ⟨x, k, b, rfl, h, T⟩
  have h0 := hide h
  have c1 := h.cell1
  cases b with
  | true =>
    have E := hide (end_bad T.out)
    clear T h HK HR RF
    go_wp2_with fail
    go_ret2
    exact ⟨ret_both E.out, h0.out.below⟩
  | false =>
    cases k with
    | nil =>
      have c0 : v1.cell? ⟨v.heap.size + 1, 0, none⟩ = some (.string ⟨#[]⟩) := h.cell0
      have E := hide (end_good T.out)
      clear T h HK HR RF
      go_wp2_with fail
      go_ret2
      exact ⟨ret_both E.out, h0.out.below⟩
    | cons c k =>
      have c0 := h.cell0
      have E := hide (end_left T.out)
      have hne : ¬ (txt (c :: k)).toList = [] := by rw [ByteArray.toList_eq, txt_data]; simp
      have hne2 : (txt (c :: k)).toList.isEmpty = false := by rw [ByteArray.toList_eq, txt_data]; rfl
      clear T h HK HR RF
      generalize txt (c :: k) = t at *
      go_wp2_with fail
      go_ret2
      exact ⟨ret_both E.out, h0.out.below⟩

set_option maxHeartbeats 1000000 in
set_option maxRecDepth 100000 in
theorem progParse_2 (s : ByteArray) (w : World) (hs : s.size ≤ 100000) (hT : ReadTabs w) :
    Calls Tryz.prog 76 #[.int .i64 2, .string s] w fun e w' => e = .returned (.tuple #[.int .i64 (outM (fin (monthP s.data.toList))).1, .int .i64 (outM (fin (monthP s.data.toList))).2]) ∧ Below w.heap.size w w' := by
  have HK := hide (fun w => isKind_yes 2 w (by decide) (by decide))
  have HR := hide (fun R w' h => (month_any w R s.data.toList false w' h (by simp; omega) hT).mono (fun e w'' ⟨v, k, b', he, hr, T⟩ => (⟨v, k, b', he, hr, T⟩ : ∃ v k b', e = Ending.returned (.int .i64 v) ∧ Rd w w'' R k b' ∧ Hid (Tell false (monthP s.data.toList) v k b'))))
  have RF := hide (fun o => rd_fresh w o s)
  clear hT hs
  generalize monthP s.data.toList = p at *
  go_enter Tryz.func76, Tryz.ntmps76
  go_wp2_with fail
  refine (HK.out _).mono ?_
  rintro e v ⟨rfl, rfl⟩
  go_wp2_with fail
  refine (HR.out _ _ (RF.out _)).mono ?_
  rintro e v1 ⟨x, k, b, rfl, h, T⟩
  have h0 := hide h
  have c1 := h.cell1
  cases b with
  | true =>
    have E := hide (end_bad T.out)
    clear T h HK HR RF
    go_wp2_with fail
    go_ret2
    exact ⟨ret_both E.out, h0.out.below⟩
  | false =>
    cases k with
    | nil =>
      have c0 : v1.cell? ⟨v.heap.size + 1, 0, none⟩ = some (.string ⟨#[]⟩) := h.cell0
      have E := hide (end_good T.out)
      clear T h HK HR RF
      go_wp2_with fail
      go_ret2
      exact ⟨ret_both E.out, h0.out.below⟩
    | cons c k =>
      have c0 := h.cell0
      have E := hide (end_left T.out)
      have hne : ¬ (txt (c :: k)).toList = [] := by rw [ByteArray.toList_eq, txt_data]; simp
      have hne2 : (txt (c :: k)).toList.isEmpty = false := by rw [ByteArray.toList_eq, txt_data]; rfl
      clear T h HK HR RF
      generalize txt (c :: k) = t at *
      go_wp2_with fail
      go_ret2
      exact ⟨ret_both E.out, h0.out.below⟩

set_option maxHeartbeats 1000000 in
set_option maxRecDepth 100000 in
theorem progParse_3 (s : ByteArray) (w : World) (hs : s.size ≤ 100000) (hT : ReadTabs w) :
    Calls Tryz.prog 76 #[.int .i64 3, .string s] w fun e w' => e = .returned (.tuple #[.int .i64 (outM (fin (weekP s.data.toList))).1, .int .i64 (outM (fin (weekP s.data.toList))).2]) ∧ Below w.heap.size w w' := by
  have HK := hide (fun w => isKind_yes 3 w (by decide) (by decide))
  have HR := hide (fun R w' h => (week_any w R s.data.toList false w' h (by simp; omega) hT).mono (fun e w'' ⟨v, k, b', he, hr, T⟩ => (⟨v, k, b', he, hr, T⟩ : ∃ v k b', e = Ending.returned (.int .i64 v) ∧ Rd w w'' R k b' ∧ Hid (Tell false (weekP s.data.toList) v k b'))))
  have RF := hide (fun o => rd_fresh w o s)
  clear hT hs
  generalize weekP s.data.toList = p at *
  go_enter Tryz.func76, Tryz.ntmps76
  go_wp2_with fail
  refine (HK.out _).mono ?_
  rintro e v ⟨rfl, rfl⟩
  go_wp2_with fail
  refine (HR.out _ _ (RF.out _)).mono ?_
  rintro e v1 ⟨x, k, b, rfl, h, T⟩
  have h0 := hide h
  have c1 := h.cell1
  cases b with
  | true =>
    have E := hide (end_bad T.out)
    clear T h HK HR RF
    go_wp2_with fail
    go_ret2
    exact ⟨ret_both E.out, h0.out.below⟩
  | false =>
    cases k with
    | nil =>
      have c0 : v1.cell? ⟨v.heap.size + 1, 0, none⟩ = some (.string ⟨#[]⟩) := h.cell0
      have E := hide (end_good T.out)
      clear T h HK HR RF
      go_wp2_with fail
      go_ret2
      exact ⟨ret_both E.out, h0.out.below⟩
    | cons c k =>
      have c0 := h.cell0
      have E := hide (end_left T.out)
      have hne : ¬ (txt (c :: k)).toList = [] := by rw [ByteArray.toList_eq, txt_data]; simp
      have hne2 : (txt (c :: k)).toList.isEmpty = false := by rw [ByteArray.toList_eq, txt_data]; rfl
      clear T h HK HR RF
      generalize txt (c :: k) = t at *
      go_wp2_with fail
      go_ret2
      exact ⟨ret_both E.out, h0.out.below⟩

set_option maxHeartbeats 1000000 in
set_option maxRecDepth 100000 in
theorem progParse_4 (s : ByteArray) (w : World) (hs : s.size ≤ 100000) (hT : ReadTabs w) :
    Calls Tryz.prog 76 #[.int .i64 4, .string s] w fun e w' => e = .returned (.tuple #[.int .i64 (outM (fin (timeP s.data.toList))).1, .int .i64 (outM (fin (timeP s.data.toList))).2]) ∧ Below w.heap.size w w' := by
  have HK := hide (fun w => isKind_yes 4 w (by decide) (by decide))
  have HR := hide (fun R w' h => (time_any w R s.data.toList false w' h (by simp; omega) hT.1).mono (fun e w'' ⟨v, k, b', he, hr, _, _, T⟩ => (⟨v, k, b', he, hr, T⟩ : ∃ v k b', e = Ending.returned (.int .i64 v) ∧ Rd w w'' R k b' ∧ Hid (Tell false (timeP s.data.toList) v k b'))))
  have RF := hide (fun o => rd_fresh w o s)
  clear hT hs
  generalize timeP s.data.toList = p at *
  go_enter Tryz.func76, Tryz.ntmps76
  go_wp2_with fail
  refine (HK.out _).mono ?_
  rintro e v ⟨rfl, rfl⟩
  go_wp2_with fail
  refine (HR.out _ _ (RF.out _)).mono ?_
  rintro e v1 ⟨x, k, b, rfl, h, T⟩
  have h0 := hide h
  have c1 := h.cell1
  cases b with
  | true =>
    have E := hide (end_bad T.out)
    clear T h HK HR RF
    go_wp2_with fail
    go_ret2
    exact ⟨ret_both E.out, h0.out.below⟩
  | false =>
    cases k with
    | nil =>
      have c0 : v1.cell? ⟨v.heap.size + 1, 0, none⟩ = some (.string ⟨#[]⟩) := h.cell0
      have E := hide (end_good T.out)
      clear T h HK HR RF
      go_wp2_with fail
      go_ret2
      exact ⟨ret_both E.out, h0.out.below⟩
    | cons c k =>
      have c0 := h.cell0
      have E := hide (end_left T.out)
      have hne : ¬ (txt (c :: k)).toList = [] := by rw [ByteArray.toList_eq, txt_data]; simp
      have hne2 : (txt (c :: k)).toList.isEmpty = false := by rw [ByteArray.toList_eq, txt_data]; rfl
      clear T h HK HR RF
      generalize txt (c :: k) = t at *
      go_wp2_with fail
      go_ret2
      exact ⟨ret_both E.out, h0.out.below⟩

set_option maxHeartbeats 1000000 in
set_option maxRecDepth 100000 in
theorem progParse_5 (s : ByteArray) (w : World) (hs : s.size ≤ 100000) (hT : ReadTabs w) :
    Calls Tryz.prog 76 #[.int .i64 5, .string s] w fun e w' => e = .returned (.tuple #[.int .i64 (outM (fin (localP s.data.toList))).1, .int .i64 (outM (fin (localP s.data.toList))).2]) ∧ Below w.heap.size w w' := by
  have HK := hide (fun w => isKind_yes 5 w (by decide) (by decide))
  have HR := hide (fun R w' h => (local_any w R s.data.toList false w' h (by simp; omega) hT).mono (fun e w'' ⟨v, k, b', he, hr, T⟩ => (⟨v, k, b', he, hr, T⟩ : ∃ v k b', e = Ending.returned (.int .i64 v) ∧ Rd w w'' R k b' ∧ Hid (Tell false (localP s.data.toList) v k b'))))
  have RF := hide (fun o => rd_fresh w o s)
  clear hT hs
  generalize localP s.data.toList = p at *
  go_enter Tryz.func76, Tryz.ntmps76
  go_wp2_with fail
  refine (HK.out _).mono ?_
  rintro e v ⟨rfl, rfl⟩
  go_wp2_with fail
  refine (HR.out _ _ (RF.out _)).mono ?_
  rintro e v1 ⟨x, k, b, rfl, h, T⟩
  have h0 := hide h
  have c1 := h.cell1
  cases b with
  | true =>
    have E := hide (end_bad T.out)
    clear T h HK HR RF
    go_wp2_with fail
    go_ret2
    exact ⟨ret_both E.out, h0.out.below⟩
  | false =>
    cases k with
    | nil =>
      have c0 : v1.cell? ⟨v.heap.size + 1, 0, none⟩ = some (.string ⟨#[]⟩) := h.cell0
      have E := hide (end_good T.out)
      clear T h HK HR RF
      go_wp2_with fail
      go_ret2
      exact ⟨ret_both E.out, h0.out.below⟩
    | cons c k =>
      have c0 := h.cell0
      have E := hide (end_left T.out)
      have hne : ¬ (txt (c :: k)).toList = [] := by rw [ByteArray.toList_eq, txt_data]; simp
      have hne2 : (txt (c :: k)).toList.isEmpty = false := by rw [ByteArray.toList_eq, txt_data]; rfl
      clear T h HK HR RF
      generalize txt (c :: k) = t at *
      go_wp2_with fail
      go_ret2
      exact ⟨ret_both E.out, h0.out.below⟩

theorem momParse_read (kind : Int) (s : ByteArray) (w : World) (hs : s.size ≤ 100000) (hT : ReadTabs w) :
    Calls Tryz.prog 76 #[.int .i64 kind, .string s] w fun e w' => e = .returned (.tuple #[.int .i64 (momV kind s.data.toList).1, .int .i64 (momV kind s.data.toList).2]) ∧ Below w.heap.size w w' := by
  by_cases hk : 1 ≤ kind ∧ kind ≤ 5
  · unfold momV
    rw [if_pos hk]
    obtain ⟨h1, h2⟩ := hk
    rcases (show kind = 1 ∨ kind = 2 ∨ kind = 3 ∨ kind = 4 ∨ kind = 5 by omega) with rfl | rfl | rfl | rfl | rfl
    · have := progParse_1 s w hs hT
      rw [date_fin] at this; exact this
    · have := progParse_2 s w hs hT
      rw [month_fin] at this; exact this
    · have := progParse_3 s w hs hT
      rw [week_fin] at this; exact this
    · have := progParse_4 s w hs hT
      rw [time_fin] at this; exact this
    · have := progParse_5 s w hs hT
      rw [local_fin] at this; exact this
  · unfold momV
    rw [if_neg hk]
    refine (parse_kind kind s w hk).mono ?_
    rintro e w' ⟨rfl, rfl⟩
    exact ⟨rfl, Below.refl _ _⟩

end Go.Proofs.YtpkpkpiphgjbaaaGreatDoor

namespace Go.Proofs.YtpkpkpiphgjbaaaGreatDoor
open Go.RowKit
set_option maxRecDepth 100000

theorem drew_below (w : World) (q : Nat) : Below w.heap.size w (w.drewN q) := ⟨rfl, rfl, rfl, Nat.le_refl _, fun _ _ => rfl⟩
theorem quo_bounds {n s : Int} (h1 : -9223372036854775808 ≤ n) (h2 : n ≤ 9223372036854775807) (h3 : 2 ≤ s) : -4611686018427387904 ≤ n.tdiv s ∧ n.tdiv s ≤ 4611686018427387904 := by
  have e := Int.mul_tdiv_add_tmod n s
  by_cases hn : 0 ≤ n
  · have a := Int.tdiv_nonneg hn (show 0 ≤ s by omega)
    have b := Int.tmod_nonneg s hn
    have c : 2 * n.tdiv s ≤ s * n.tdiv s := Int.mul_le_mul_of_nonneg_right h3 a
    omega
  · have a : n.tdiv s ≤ 0 := by
      have := Int.tdiv_nonneg (a := -n) (b := s) (by omega) (by omega)
      rw [Int.neg_tdiv] at this
      omega
    have b := left_bounds (n := n) (s := s) (by omega) (by omega)
    have c : s * n.tdiv s ≤ 2 * n.tdiv s := Int.mul_le_mul_of_nonpos_right h3 a
    omega

theorem ret_halves {a b c d : Int} (h1 : a = c) (h2 : b = d) : Ending.returned (.tuple #[.int .i64 a, .int .i64 b]) = .returned (.tuple #[.int .i64 c, .int .i64 d]) := by rw [h1, h2]
theorem quo_up {n s : Int} (h3 : 1 ≤ s) (h : 0 ≤ n.tmod s) : n.tdiv s = n / s ∧ n.tmod s = n % s := by
  have e := (left_at (n := n) h3).1 h
  have e1 := Int.mul_tdiv_add_tmod n s
  have e2 := Int.mul_ediv_add_emod n s
  exact ⟨Int.eq_of_mul_eq_mul_left (show s ≠ 0 by omega) (by omega), e.symm⟩
theorem quo_down {n s : Int} (h3 : 1 ≤ s) (h : n.tmod s < 0) : n.tdiv s - 1 = n / s ∧ n.tmod s + s = n % s := by
  have e := ((left_at (n := n) h3).2 h).1
  have e1 := Int.mul_tdiv_add_tmod n s
  have e2 := Int.mul_ediv_add_emod n s
  refine ⟨Int.eq_of_mul_eq_mul_left (show s ≠ 0 by omega) ?_, e.symm⟩
  rw [Int.mul_sub]; omega

set_option maxHeartbeats 1000000 in
theorem split_any (n s : Int) (w : World) (h1 : -9223372036854775808 ≤ n) (h2 : n ≤ 9223372036854775807) (h3 : 2 ≤ s) (h4 : s ≤ 86400000) :
    Calls Tryz.prog 164 #[.int .i64 n, .int .i64 s] w fun e w' => e = .returned (.tuple #[.int .i64 (n / s), .int .i64 (n % s)]) ∧ Below w.heap.size w w' := by
  have ⟨d1, d2⟩ := quo_bounds h1 h2 h3
  have U := hide (quo_up (n := n) (s := s) (by omega))
  have D := hide (quo_down (n := n) (s := s) (by omega))
  have LB := hide (left_bounds (n := n) (s := s) (by omega))
  go_enter Tryz.func164, Tryz.ntmps164
  go_wp2_with fail
  go_quiet (fail)
  by_cases hc : 0 ≤ n.tmod s
  · have E := hide (U.out hc)
    clear U D LB
    go_wp2_with fail
    go_ret2
    exact ⟨ret_halves E.out.1 E.out.2, drew_below _ _⟩
  · have hc' : n.tmod s < 0 := by omega
    have E := hide (D.out hc')
    have hn : n < 0 := by
      rcases Int.lt_or_le n 0 with g | g
      · exact g
      · have := Int.tmod_nonneg s g; omega
    have b1 := (LB.out hn).1
    clear U D LB hc
    go_wp2_with fail
    go_ret2
    exact ⟨ret_halves E.out.1 E.out.2, drew_below _ _⟩

set_option maxHeartbeats 1000000 in
theorem padP_any (n k : Nat) (w : World) (hn : n ≤ 1000000) (hk : k ≤ 10) (hT : Tens w) :
    Calls Tryz.prog 166 #[.int .i64 n, .int .i64 k] w fun e w' => e = .returned (.string (txt (padL n k))) ∧ Below w.heap.size w w' := by
  have HI := hide (itoa_any n w hn hT)
  have HR := hide (fun w => repeat_noughts (k - (decD n).length) w (by omega))
  have hl := decD_len (n := n) (k := 7) (by omega) (by decide)
  have hz : (txt (decD n)).size = (decD n).length := rfl
  have hj : Hid (txt (padL n k) = txt (List.replicate (k - (decD n).length) 48) ++ txt (decD n)) := by
    show _ = _
    unfold padL
    rw [txt_app]
  have hr : (txt (List.replicate (k - (decD n).length) 48)).size ≤ 10 := by rw [txt_size, List.length_replicate]; omega
  have ha := fun w => run_string_add_sum (P := Tryz.prog) w (txt (List.replicate (k - (decD n).length) 48)) (txt (decD n)) (by omega)
  have hn2 : (n : Int) ≤ 1000000 := by omega
  have hn3 : (0 : Int) ≤ n := by omega
  generalize txt (List.replicate (k - (decD n).length) 48) = zs at *
  by_cases g : (decD n).length ≤ k
  · have e : ((k - (decD n).length : Nat) : Int) = (k : Int) - ((decD n).length : Int) := by omega
    rw [e] at HR
    have g' : ((decD n).length : Int) ≤ (k : Int) := by omega
    have gm : max (0 : Int) ((k : Int) - ((decD n).length : Int)) = (k : Int) - ((decD n).length : Int) := by omega
    clear e hT hn
    generalize txt (decD n) = ds at *
    go_enter Tryz.func166, Tryz.ntmps166
    go_wp2_with fail
    refine HI.out.mono ?_
    rintro e v ⟨rfl, b1⟩
    go_wp2_with fail
    refine (HR.out _).mono ?_
    rintro e v2 ⟨rfl, b2⟩
    go_wp2_with fail
    go_ret
    exact ⟨ret_str hj.out.symm, chain b1 b2⟩
  · have e : k - (decD n).length = 0 := by omega
    rw [e] at HR
    have g' : (k : Int) < ((decD n).length : Int) := by omega
    have gm : max (0 : Int) ((k : Int) - ((decD n).length : Int)) = 0 := by omega
    clear e hT hn
    generalize txt (decD n) = ds at *
    go_enter Tryz.func166, Tryz.ntmps166
    go_wp2_with fail
    refine HI.out.mono ?_
    rintro e v ⟨rfl, b1⟩
    go_wp2_with fail
    refine (HR.out _).mono ?_
    rintro e v2 ⟨rfl, b2⟩
    go_wp2_with fail
    go_ret
    exact ⟨ret_str hj.out.symm, chain b1 b2⟩

end Go.Proofs.YtpkpkpiphgjbaaaGreatDoor

namespace Go.Proofs.YtpkpkpiphgjbaaaGreatDoor
open Go.RowKit Go.Sort
set_option maxRecDepth 100000

/-- What a function that is handed on answers: where a year begins. -/
def Begins (g : Nat) (F : Int → Int) : Prop := ∀ (y : Int) (w : World), 1 ≤ y → y ≤ 275763 → Calls Tryz.prog g #[.int .i64 y] w fun e w' => e = .returned (.int .i64 (F y)) ∧ w' = w

set_option maxHeartbeats 1000000 in
theorem closure_any (g : Nat) (eg : ∀ args w, (callFunc g args).run Tryz.prog w = .ok (.enter g args) w) (F : Int → Int) (hg : Begins g F) (bb bn : Nat) (n x : Int) (W : World) (x1 : 0 ≤ x) (x2 : x < 275760)
    (hb : W.cell? ⟨bb, 0, none⟩ = some (.func (.func g) #[] #[])) (hn : W.cell? ⟨bn, 0, none⟩ = some (.int .i64 n)) :
    Calls Tryz.prog 207 (#[.int .i64 x] ++ #[.pointer (some ⟨bb, 0, none⟩), .pointer (some ⟨bn, 0, none⟩)]) W fun e w' => e = .returned (.bool (decide (n < F (x + 2)))) ∧ ∃ q, w' = W.drewN q := by
  have hF := fun w => hg (x + 2) w (by omega) (by omega)
  generalize F (x + 2) = f at *
  have HF := hide hF
  clear hF hg
  go_enter Tryz.func207, Tryz.ntmps207
  go_wp2
  go_quiet (exact Calls.quiet_of_same (HF.out _))
  go_wp2
  go_ret
  exact ⟨rfl, nq, rfl⟩

def renS : Go.Shelf.Ren := ⟨fun | 16 => 206 | n => n, fun | 3 => 3 | 4 => 4 | 34 => 180 | 35 => 123 | 38 => 168 | n => n, fun n => n⟩
theorem laysS : Go.Proofs.SlLaysO.n16 Tryz.prog renS := {
  mixed := by kernel_rfl
  f16 := Tryz.func206.trans (congrArg some (by kernel_rfl))
  t3 := Tryz.underlying3
  a3 := Tryz.isAgg3
  z3 := Tryz.sizeOf3
  v3 := Tryz.zeroValue3
  t4 := Tryz.underlying4
  a4 := Tryz.isAgg4
  z4 := Tryz.sizeOf4
  v4 := Tryz.zeroValue4
  t35 := Tryz.underlying123
  a35 := Tryz.isAgg123
  z35 := Tryz.sizeOf123
  v35 := Tryz.zeroValue123
  t38 := Tryz.underlying168
  a38 := Tryz.isAgg168
  z38 := Tryz.sizeOf168
  v38 := Tryz.zeroValue168 }
theorem eg34 : ∀ args w, (callFunc 207 args).run Tryz.prog w = .ok (.enter 207 args) w := enters_of Tryz.func207 (by kernel_rfl) rfl

theorem count_is {n T : Nat} {p : Nat → Bool} (hT : T ≤ n) (h1 : ∀ i, i < T → p i = false) (h2 : ∀ i, T ≤ i → i < n → p i = true) : (List.range n).countP (fun i => !p i) = T := by
  have hr : ∀ t, t < n → (List.range n)[t]! = t := fun t ht => by rw [getElem!_pos _ t (by simpa using ht)]; simp
  refine Lib.countP_boundary _ (List.range n) T (by simpa using hT) (fun t ht => ?_) (fun t h3 h4 => ?_)
  · rw [hr t (by omega), h1 t ht]; rfl
  · rw [hr t (by simpa using h4), h2 t h3 (by simpa using h4)]; rfl

/-- The world behind the two boxes. -/
def boxed (w : World) (n : Int) (g : Nat) : World := (w.alloc (.cells #[.int .i64 n] 2)).alloc (.cells #[.func (.func g) #[] #[]] 49)
theorem boxed_n (w : World) (n : Int) (g : Nat) : (boxed w n g).cell? ⟨w.heap.size, 0, none⟩ = some (.int .i64 n) := cell_alloc_sl _ (cell_new_sl w _ _)
theorem boxed_g (w : World) (n : Int) (g : Nat) : (boxed w n g).cell? ⟨w.heap.size + 1, 0, none⟩ = some (.func (.func g) #[] #[]) := by
  have := cell_new_sl (w.alloc (.cells #[.int .i64 n] 2)) (.func (.func g) #[] #[]) 49
  rwa [World.size_alloc] at this
theorem boxed_size (w : World) (n : Int) (g : Nat) : (boxed w n g).heap.size = w.heap.size + 1 + 1 := by simp [boxed]
theorem boxed_below (w : World) (n : Int) (g : Nat) (q : Nat) (os : Array Obj) : Below w.heap.size w (grow ((boxed w n g).drewN q) os) := by
  have hB0 : Below w.heap.size w (boxed w n g) := ((Below.refl _ w).alloc (Nat.le_refl _) _).alloc (by simp) _
  exact hB0.trans (below_grown_sl w.heap.size (boxed w n g) q os (by rw [boxed_size]; omega))

theorem search_any (g : Nat) (eg : ∀ args w, (callFunc g args).run Tryz.prog w = .ok (.enter g args) w) (F : Int → Int) (hg : Begins g F) (hF : ∀ x y, x ≤ y → F x ≤ F y) (n y : Int) (y1 : 1 ≤ y) (y2 : y ≤ 275761)
    (hlo : F y ≤ n) (hhi : y ≤ 275760 → n < F (y + 1)) (w : World) (q : Nat) :
    Calls Tryz.prog 206 #[.int .i64 275760, .func (.func 207) #[] #[.pointer (some ⟨w.heap.size + 1, 0, none⟩), .pointer (some ⟨w.heap.size, 0, none⟩)]] ((boxed w n g).drewN q) fun e w' =>
      e = .returned (.int .i64 (y - 1)) ∧ ∃ q' os, w' = grow ((boxed w n g).drewN q') os := by
  have cn : ((boxed w n g).drewN q).cell? ⟨w.heap.size, 0, none⟩ = some (.int .i64 n) := boxed_n w n g
  have cg : ((boxed w n g).drewN q).cell? ⟨w.heap.size + 1, 0, none⟩ = some (.func (.func g) #[] #[]) := boxed_g w n g
  have sz : ((boxed w n g).drewN q).heap.size = w.heap.size + 1 + 1 := boxed_size w n g
  have h := Any.sort_Search laysS 207 #[.pointer (some ⟨w.heap.size + 1, 0, none⟩), .pointer (some ⟨w.heap.size, 0, none⟩)] 275760 (fun i => decide (n < F ((i : Int) + 2))) ((boxed w n g).drewN q) eg34 (by decide)
    (fun m os i hi => (closure_any g eg F hg (w.heap.size + 1) w.heap.size n (i : Int) _ (by omega) (by omega) (cell_grown (by rw [sz]; exact Nat.lt_succ_self _) cg m os) (cell_grown (by rw [sz]; show w.heap.size < _; omega) cn m os)).mono
      fun _ _ ⟨he, q, hq⟩ => ⟨he, q, #[], by rw [hq, grow_empty]⟩)
    (fun a b hab _ ha => by
      have := hF ((a : Int) + 2) ((b : Int) + 2) (by omega)
      have := of_decide_eq_true ha
      exact decide_eq_true (by omega))
  have hc : (List.range 275760).countP (fun i : Nat => !decide (n < F ((i : Int) + 2))) = (y - 1).toNat := by
    refine count_is (p := fun i : Nat => decide (n < F ((i : Int) + 2))) (by omega) (fun i hi => ?_) (fun i h1 h2 => ?_)
    · have := hF ((i : Int) + 2) y (by omega)
      exact decide_eq_false (by omega)
    · have := hF (y + 1) ((i : Int) + 2) (by omega)
      have := hhi (by omega)
      exact decide_eq_true (by omega)
  rw [hc] at h
  have e : (((y - 1).toNat : Nat) : Int) = y - 1 := by omega
  rw [e] at h
  refine h.mono ?_
  rintro e' w' ⟨he, q', os, rfl⟩
  exact ⟨he, q + q', os, by rw [World.drewN_drewN]⟩

theorem ret_year {a b : Int} {c : Bool} (h : a = b) : Ending.returned (.tuple #[.int .i64 a, .bool c]) = .returned (.tuple #[.int .i64 b, .bool c]) := by rw [h]

set_option maxHeartbeats 1000000 in
theorem yearOf_at (g : Nat) (eg : ∀ args w, (callFunc g args).run Tryz.prog w = .ok (.enter g args) w) (F : Int → Int) (hg : Begins g F) (hF : ∀ x y, x ≤ y → F x ≤ F y) (n y : Int) (y1 : 1 ≤ y) (y2 : y ≤ 275761)
    (hlo : F y ≤ n) (hhi : y ≤ 275760 → n < F (y + 1)) (w : World) :
    Calls Tryz.prog 191 #[.int .i64 n, .func (.func g) #[] #[]] w fun e w' => e = .returned (.tuple #[.int .i64 y, .bool (yearOk y)]) ∧ Below w.heap.size w w' := by
  have hS := fun q => search_any g eg F hg hF n y y1 y2 hlo hhi w q
  have h1 := fun w => hg 1 w (by decide) (by decide)
  have hle : F 1 ≤ n := by have := hF 1 y y1; omega
  have hB := boxed_below w n g
  have ey : (1 : Int) + (y - 1) = y := by omega
  have hY : ∀ w, Calls Tryz.prog 183 #[.int .i64 (1 + (y - 1))] w fun e w' => e = .returned (.bool (yearOk y)) ∧ w' = w := fun w => by rw [ey]; exact isYear_any y w
  generalize yearOk y = b at *
  generalize F 1 = f at *
  unfold boxed at hS hB
  have HS := hide hS
  have H1 := hide h1
  have HB := hide hB
  have HY := hide hY
  have EY := hide ey
  clear hS h1 hB hg hF hlo hhi hY ey
  go_enter Tryz.func191, Tryz.ntmps191
  go_wp2
  go_quiet (exact Calls.quiet_of_same (H1.out _))
  go_wp2_with fail
  refine (HS.out _).mono ?_
  rintro e w' ⟨rfl, q, os, rfl⟩
  go_wp2_with fail
  refine (HY.out _).mono ?_
  rintro e u1 ⟨rfl, rfl⟩
  go_wp2_with fail
  go_ret2
  exact ⟨ret_year EY.out, HB.out _ _⟩

set_option maxHeartbeats 1000000 in
theorem yearOf_low (g : Nat) (eg : ∀ args w, (callFunc g args).run Tryz.prog w = .ok (.enter g args) w) (F : Int → Int) (hg : Begins g F) (n : Int) (h : n < F 1) (w : World) :
    Calls Tryz.prog 191 #[.int .i64 n, .func (.func g) #[] #[]] w fun e w' => e = .returned (.tuple #[.int .i64 0, .bool false]) ∧ Below w.heap.size w w' := by
  have h1 := fun w => hg 1 w (by decide) (by decide)
  have hB := fun q => boxed_below w n g q #[]
  generalize F 1 = f at *
  unfold boxed at hB
  have H1 := hide h1
  have HB := hide hB
  clear h1 hB hg
  go_enter Tryz.func191, Tryz.ntmps191
  go_wp2
  go_quiet (exact Calls.quiet_of_same (H1.out _))
  go_wp2_with fail
  go_ret2
  exact ⟨rfl, by have := HB.out nq; rw [grow_empty] at this; exact this⟩

theorem begins_day : Begins 182 newV := fun y w h1 h2 => firstDay_any y w h1 h2
theorem begins_monday : Begins 186 firstV := fun y w h1 h2 => firstMonday_any y w h1 h2
theorem eg_day : ∀ args w, (callFunc 182 args).run Tryz.prog w = .ok (.enter 182 args) w := enters_of Tryz.func182 (by kernel_rfl) rfl
theorem eg_monday : ∀ args w, (callFunc 186 args).run Tryz.prog w = .ok (.enter 186 args) w := enters_of Tryz.func186 (by kernel_rfl) rfl

end Go.Proofs.YtpkpkpiphgjbaaaGreatDoor

namespace Go.Proofs.YtpkpkpiphgjbaaaGreatDoor
open Go.RowKit
set_option maxRecDepth 100000

theorem ret_date {y m d c : Int} (h : c = d) : Ending.returned (.tuple #[.int .i64 y, .int .i64 m, .int .i64 c, .int .i64 0]) = .returned (.tuple #[.int .i64 y, .int .i64 m, .int .i64 d, .int .i64 0]) := by rw [h]
theorem yearOf_day (n y : Int) (w : World) (y1 : 1 ≤ y) (y2 : y ≤ 275760) (h : IsYear n y) :
    Calls Tryz.prog 191 #[.int .i64 n, .func (.func 182) #[] #[]] w fun e w' => e = .returned (.tuple #[.int .i64 y, .bool true]) ∧ Below w.heap.size w w' := by
  have := yearOf_at _ eg_day newV begins_day (fun _ _ => new_mono) n y y1 (by omega) h.1 (fun _ => h.2) w
  rw [yearOk_in y1 y2] at this; exact this
theorem yearOf_week (n y : Int) (w : World) (y1 : 1 ≤ y) (y2 : y ≤ 275760) (h : InWeeks n y) :
    Calls Tryz.prog 191 #[.int .i64 n, .func (.func 186) #[] #[]] w fun e w' => e = .returned (.tuple #[.int .i64 y, .bool true]) ∧ Below w.heap.size w w' := by
  have := yearOf_at _ eg_monday firstV begins_monday (fun _ _ => first_mono) n y y1 (by omega) h.1 (fun _ => h.2) w
  rw [yearOk_in y1 y2] at this; exact this
theorem yearOf_dayhigh (n : Int) (w : World) (h : newV 275761 ≤ n) :
    Calls Tryz.prog 191 #[.int .i64 n, .func (.func 182) #[] #[]] w fun e w' => e = .returned (.tuple #[.int .i64 275761, .bool false]) ∧ Below w.heap.size w w' := by
  have := yearOf_at _ eg_day newV begins_day (fun _ _ => new_mono) n 275761 (by decide) (by decide) h (fun h => absurd h (by decide)) w
  rw [yearOk_high (by decide)] at this; exact this
theorem yearOf_weekhigh (n : Int) (w : World) (h : firstV 275761 ≤ n) :
    Calls Tryz.prog 191 #[.int .i64 n, .func (.func 186) #[] #[]] w fun e w' => e = .returned (.tuple #[.int .i64 275761, .bool false]) ∧ Below w.heap.size w w' := by
  have := yearOf_at _ eg_monday firstV begins_monday (fun _ _ => first_mono) n 275761 (by decide) (by decide) h (fun h => absurd h (by decide)) w
  rw [yearOk_high (by decide)] at this; exact this
theorem yearOf_dayno (n : Int) (w : World) (h : n < newV 1 ∨ newV 275761 ≤ n) :
    ∃ y, Calls Tryz.prog 191 #[.int .i64 n, .func (.func 182) #[] #[]] w fun e w' => e = .returned (.tuple #[.int .i64 y, .bool false]) ∧ Below w.heap.size w w' :=
  h.elim (fun h => ⟨_, yearOf_low _ eg_day newV begins_day n h w⟩) (fun h => ⟨_, yearOf_dayhigh n w h⟩)
theorem yearOf_weekno (n : Int) (w : World) (h : n < firstV 1 ∨ firstV 275761 ≤ n) :
    ∃ y, Calls Tryz.prog 191 #[.int .i64 n, .func (.func 186) #[] #[]] w fun e w' => e = .returned (.tuple #[.int .i64 y, .bool false]) ∧ Below w.heap.size w w' :=
  h.elim (fun h => ⟨_, yearOf_low _ eg_monday firstV begins_monday n h w⟩) (fun h => ⟨_, yearOf_weekhigh n w h⟩)

set_option maxHeartbeats 1000000 in
theorem dateCall_out (n : Int) (w : World) (h : n < newV 1 ∨ newV 275761 ≤ n) :
    Calls Tryz.prog 189 #[.int .i64 n] w fun e w' => e = .returned (.tuple #[.int .i64 0, .int .i64 0, .int .i64 0, .int .i64 2]) ∧ Below w.heap.size w w' := by
  obtain ⟨y, hY⟩ := yearOf_dayno n w h
  have HY := hide hY
  clear hY h
  go_enter Tryz.func189, Tryz.ntmps189
  go_wp2_with fail
  refine (HY.out).mono ?_
  rintro e v1 ⟨rfl, b1⟩
  go_wp2_with fail
  (try simp only [Exit.inBlock, Exit.then]); refine bodyPost_ret (results_tmp4 rfl _ _ _) rfl ?_
  exact ⟨rfl, b1⟩

set_option maxHeartbeats 1000000 in
theorem dateCall_in (n y m d : Int) (w : World) (h : IsDay n y m d) (hT : Lens w) :
    Calls Tryz.prog 189 #[.int .i64 n] w fun e w' => e = .returned (.tuple #[.int .i64 y, .int .i64 m, .int .i64 d, .int .i64 0]) ∧ Below w.heap.size w w' := by
  have HY := hide (yearOf_day n y w h.y1 h.y2 h.year)
  have hN := fun (k : Int) (h1 : 1 ≤ k) (h2 : k < m) => month_next h h1 h2
  have hH := month_here h
  obtain ⟨c1, c2⟩ := h.bounds
  have hM := fun (k : Int) (g : k ≤ m) => aheadI_mono (y := y) g
  have e := h.is
  obtain ⟨y1, y2, m1, m2, d1, d2, -⟩ := h
  have hB := fun (k : Int) (h : k ≤ 13) => aheadI_bounds (y := y) h
  have hX := fun (k : Int) (h : 1 ≤ k) => aheadI_next (y := y) h
  have hK := len_bounds y
  have hm := hK m
  have hF := fun w => firstDay_any y w y1 (by omega)
  have hS := fun (k : Int) (h1 : 1 ≤ k) (h2 : k ≤ 12) w hT => by
    have := length_any y k w (by omega) (by omega) (by omega) (by omega) hT
    rw [len_in (by omega)] at this; exact this
  obtain ⟨n1, n2⟩ := new_range y1 (by omega)
  generalize newV y = N at *
  have r1 : 0 ≤ n - N ∧ n - N ≤ 400 := by have := hB m (by omega); omega
  have HN := hide hN
  have HH := hide hH
  have HM := hide hM
  have HB := hide hB
  have HX := hide hX
  have HK := hide hK
  have HF := hide hF
  have HS := hide hS
  have HT := hide hT
  have E := hide e
  clear hN hH hM hB hX hK hm hF hS hT e d2
  go_enter Tryz.func189, Tryz.ntmps189
  go_wp2_with fail
  refine (HY.out).mono ?_
  rintro e v1 ⟨rfl, b1⟩
  have T1 := hide (HT.out.below b1)
  go_wp2_with fail
  refine (HF.out _).mono ?_
  rintro e u1 ⟨rfl, rfl⟩
  go_wp2_with fail
  go_loop [3, 7] (fun s t => ∃ k r : Int, s = .int .i64 k ∧ t = .int .i64 r ∧ 1 ≤ k ∧ k ≤ m ∧ Hid (r = n - N - aheadI y k)) (fun s _ => (m - intOf s).toNat)
  case atStart => exact ⟨1, n - N, rfl, rfl, by omega, by omega, hide (by rw [aheadI_1]; omega)⟩
  case round =>
    obtain ⟨k, r, rfl, rfl, k1, k2, eR⟩ := hrel
    have hb := HB.out k (by omega)
    have hm := HM.out k k2
    have r1 : 0 ≤ r := by have := eR.out; have := E.out; omega
    have r2 : r ≤ 400 := by have := eR.out; omega
    have hs := HS.out k (by omega) (by omega)
    have hc := HK.out k
    clear hb hm
    by_cases hk : k < m
    · have hn : lenV y k ≤ r := by rw [eR.out]; exact HN.out k k1 hk
      have hx := hide (HX.out k k1)
      generalize lenV y k = l at *
      have Hs := hide hs
      clear hs
      go_wp2_with fail
      refine (Hs.out _ T1.out).mono ?_
      rintro e u1 ⟨rfl, rfl⟩
      go_wp2_with fail
      refine (Hs.out _ T1.out).mono ?_
      rintro e u1 ⟨rfl, rfl⟩
      go_wp2_with fail
      go_round
      case rel => exact ⟨k + 1, r - l, rfl, rfl, by omega, by omega, hide (by rw [hx.out, eR.out]; omega)⟩
      case measure => simp [intOf]; omega
    · obtain rfl : k = m := by omega
      have hn : r < lenV y k := by rw [eR.out]; exact HH.out.1
      have hd := hide (HH.out.2)
      generalize lenV y k = l at *
      have Hs := hide hs
      clear hs hk
      go_wp2_with fail
      refine (Hs.out _ T1.out).mono ?_
      rintro e u1 ⟨rfl, rfl⟩
      go_wp2_with fail
      (try simp only [Exit.inBlock, Exit.then]); refine bodyPost_ret (results_tmp4 rfl _ _ _) rfl ?_
      exact ⟨ret_date (by rw [eR.out]; exact hd.out), b1⟩

set_option maxHeartbeats 1000000 in
theorem weekCall_out (n : Int) (w : World) (h : n < firstV 1 ∨ firstV 275761 ≤ n) :
    Calls Tryz.prog 167 #[.int .i64 n] w fun e w' => e = .returned (.tuple #[.int .i64 0, .int .i64 0, .int .i64 2]) ∧ Below w.heap.size w w' := by
  obtain ⟨y, hY⟩ := yearOf_weekno n w h
  have HY := hide hY
  clear hY h
  go_enter Tryz.func167, Tryz.ntmps167
  go_wp2_with fail
  refine (HY.out).mono ?_
  rintro e v1 ⟨rfl, b1⟩
  go_wp2_with fail
  go_ret3
  exact ⟨rfl, b1⟩

theorem ret_week {y m d : Int} (h : m = d) : Ending.returned (.tuple #[.int .i64 y, .int .i64 m, .int .i64 0]) = .returned (.tuple #[.int .i64 y, .int .i64 d, .int .i64 0]) := by rw [h]

set_option maxHeartbeats 1000000 in
theorem weekCall_in (n y : Int) (w : World) (y1 : 1 ≤ y) (y2 : y ≤ 275760) (h : InWeeks n y) :
    Calls Tryz.prog 167 #[.int .i64 n] w fun e w' => e = .returned (.tuple #[.int .i64 y, .int .i64 (weekV n y), .int .i64 0]) ∧ Below w.heap.size w w' := by
  have HY := hide (yearOf_week n y w y1 y2 h)
  have hF := fun w => firstMonday_any y w y1 (by omega)
  obtain ⟨n1, n2⟩ := first_range y1 (by omega)
  have h1 := h.1
  have h2 := h.2
  have h3 := first_step y
  have E := hide (show weekV n y = (n - firstV y) / 7 + 1 from rfl)
  generalize weekV n y = v at *
  generalize firstV y = F at *
  have h4 : n - F ≤ 371 := by omega
  have h5 : 0 ≤ n - F := by omega
  have h6 : n ≤ 300000000 := by omega
  have HF := hide hF
  clear hF h3 h h2
  go_enter Tryz.func167, Tryz.ntmps167
  go_wp2_with fail
  refine (HY.out).mono ?_
  rintro e v1 ⟨rfl, b1⟩
  go_wp2_with fail
  refine (HF.out _).mono ?_
  rintro e u1 ⟨rfl, rfl⟩
  go_wp2_with fail
  go_ret3
  exact ⟨ret_week E.out.symm, b1⟩

end Go.Proofs.YtpkpkpiphgjbaaaGreatDoor
