/- The program's Parse: it answers by 'momV'. Conditions: texts as long as the law asks; the tables of its road. -/
import Derived.Laws.EntriesVeiled
import Derived.Test.YtekcbkicfoaheaaGreatDoorMomRd6
namespace Go.Proofs.YtekcbkicfoaheaaGreatDoor
open Go.RowKit

set_option maxHeartbeats 1000000 in
theorem isKind_no (kind : Int) (w : World) (h : ¬ (1 ≤ kind ∧ kind ≤ 5)) :
    Calls Tryz.prog 13 #[.int .i64 kind] w fun e w' => e = .returned (.bool false) ∧ w' = w := by
  rcases (show kind < 1 ∨ (1 ≤ kind ∧ 5 < kind) by omega) with g | ⟨g, g'⟩
  · clear h
    go_enter Tryz.func13, Tryz.ntmps13
    go_wp2_with fail
    go_ret
    exact ⟨rfl, rfl⟩
  · have d : decide (kind ≤ 5) = false := decide_eq_false (by omega)
    clear h
    go_enter Tryz.func13, Tryz.ntmps13
    go_wp2_with fail
    go_ret
    exact ⟨rfl, rfl⟩
set_option maxHeartbeats 1000000 in
theorem isKind_yes (kind : Int) (w : World) (g : 1 ≤ kind) (g' : kind ≤ 5) :
    Calls Tryz.prog 13 #[.int .i64 kind] w fun e w' => e = .returned (.bool true) ∧ w' = w := by
  have d : decide (kind ≤ 5) = true := decide_eq_true g'
  go_enter Tryz.func13, Tryz.ntmps13
  go_wp2_with fail
  go_ret
  exact ⟨rfl, rfl⟩

set_option maxHeartbeats 1000000 in
theorem parse_kind (kind : Int) (s : ByteArray) (w : World) (h : ¬ (1 ≤ kind ∧ kind ≤ 5)) :
    Calls Tryz.prog 9 #[.int .i64 kind, .string s] w fun e w' => e = .returned (.tuple #[.int .i64 0, .int .i64 3]) ∧ w' = w := by
  have HK := hide (fun w => isKind_no kind w h)
  clear h
  go_enter Tryz.func9, Tryz.ntmps9
  go_wp2_with fail
  refine (HK.out _).mono ?_
  rintro e v ⟨rfl, rfl⟩
  go_wp2_with fail
  go_ret2
  exact ⟨rfl, rfl⟩

/-- How Parse ends, by how the reading went. -/
theorem end_bad {p : Got} {v : Int} {k : List UInt8} (h : Tell false p v k true) : outM (fin p) = (0, 1) := by
  rcases h with ⟨_, h, _⟩ | ⟨_, h⟩
  · cases h
  · rcases h with h | h
    · cases h
    · rw [h]; rfl
theorem end_left {p : Got} {v : Int} {c : UInt8} {k : List UInt8} (h : Tell false p v (c :: k) false) : outM (fin p) = (0, 1) := by
  rcases h with ⟨_, _, h⟩ | ⟨h, _⟩
  · rw [h]; rfl
  · cases h
theorem end_good {p : Got} {v : Int} (h : Tell false p v [] false) : outM (fin p) = (v, 0) := by
  rcases h with ⟨_, _, h⟩ | ⟨h, _⟩
  · rw [h]; rfl
  · cases h

theorem ret_both {a b : Int} {p : Int × Int} (h : p = (a, b)) : Ending.returned (.tuple #[.int .i64 a, .int .i64 b]) = .returned (.tuple #[.int .i64 p.1, .int .i64 p.2]) := by rw [h]
theorem lie_fresh (w : World) (o x : Obj) : ((w.alloc o).alloc x).heap[w.heap.size + 1]? = some x := by
  show ((w.heap.push o).push x)[w.heap.size + 1]? = some x
  rw [show w.heap.size + 1 = (w.heap.push o).size by simp]
  exact Array.getElem?_push_size
theorem rd_fresh (w : World) (o : Obj) (s : ByteArray) : Rd w ((w.alloc o).alloc (.cells #[.string s, .bool false] 41)) (w.heap.size + 1) s.data.toList false :=
  ⟨by omega, lie_fresh w o _, ((Below.refl _ w).alloc (Nat.le_refl _) o).alloc (by simp) _⟩

set_option maxHeartbeats 1000000 in
set_option maxRecDepth 100000 in
theorem progParse_1 (s : ByteArray) (w : World) (hs : s.size ≤ 100000) (hT : ReadTabs w) :
    Calls Tryz.prog 9 #[.int .i64 1, .string s] w fun e w' => e = .returned (.tuple #[.int .i64 (outM (fin (dateP s.data.toList))).1, .int .i64 (outM (fin (dateP s.data.toList))).2]) ∧ Below w.heap.size w w' := by
  have HK := hide (fun w => isKind_yes 1 w (by decide) (by decide))
  have HR := hide (fun R w' h => (date_any w R s.data.toList false w' h (by simp; omega) hT).mono (fun e w'' ⟨v, k, b', he, hr, _, _, _, T⟩ => (⟨v, k, b', he, hr, T⟩ : ∃ v k b', e = Ending.returned (.int .i64 v) ∧ Rd w w'' R k b' ∧ Hid (Tell false (dateP s.data.toList) v k b'))))
  have RF := hide (fun o => rd_fresh w o s)
  clear hT hs
  generalize dateP s.data.toList = p at *
  go_enter Tryz.func9, Tryz.ntmps9
  go_wp2_with fail
  refine (HK.out _).mono ?_
  rintro e v ⟨rfl, rfl⟩
  go_wp2_with fail
  refine (HR.out _ _ (RF.out _)).mono ?_
  rintro e v1 ⟨x, k, b, rfl, h, T⟩
  have h0 := hide h
  have c1 := h.cell1
  cases b with
  | true =>
    have E := hide (end_bad T.out)
    clear T h HK HR RF
    go_wp2_with fail
    go_ret2
    exact ⟨ret_both E.out, h0.out.below⟩
  | false =>
    cases k with
    | nil =>
      have c0 : v1.cell? ⟨v.heap.size + 1, 0, none⟩ = some (.string ⟨#[]⟩) := h.cell0
      have E := hide (end_good T.out)
      clear T h HK HR RF
      go_wp2_with fail
      go_ret2
      exact ⟨ret_both E.out, h0.out.below⟩
    | cons c k =>
      have c0 := h.cell0
      have E := hide (end_left T.out)
      have hne : ¬ (txt (c :: k)).toList = [] := by rw [ByteArray.toList_eq, txt_data]; simp
      have hne2 : (txt (c :: k)).toList.isEmpty = false := by rw [ByteArray.toList_eq, txt_data]; rfl
      clear T h HK HR RF
      generalize txt (c :: k) = t at *
      go_wp2_with fail
      go_ret2
      exact ⟨ret_both E.out, h0.out.below⟩

set_option maxHeartbeats 1000000 in
set_option maxRecDepth 100000 in
theorem progParse_2 (s : ByteArray) (w : World) (hs : s.size ≤ 100000) (hT : ReadTabs w) :
    Calls Tryz.prog 9 #[.int .i64 2, .string s] w fun e w' => e = .returned (.tuple #[.int .i64 (outM (fin (monthP s.data.toList))).1, .int .i64 (outM (fin (monthP s.data.toList))).2]) ∧ Below w.heap.size w w' := by
  have HK := hide (fun w => isKind_yes 2 w (by decide) (by decide))
  have HR := hide (fun R w' h => (month_any w R s.data.toList false w' h (by simp; omega) hT).mono (fun e w'' ⟨v, k, b', he, hr, T⟩ => (⟨v, k, b', he, hr, T⟩ : ∃ v k b', e = Ending.returned (.int .i64 v) ∧ Rd w w'' R k b' ∧ Hid (Tell false (monthP s.data.toList) v k b'))))
  have RF := hide (fun o => rd_fresh w o s)
  clear hT hs
  generalize monthP s.data.toList = p at *
  go_enter Tryz.func9, Tryz.ntmps9
  go_wp2_with fail
  refine (HK.out _).mono ?_
  rintro e v ⟨rfl, rfl⟩
  go_wp2_with fail
  refine (HR.out _ _ (RF.out _)).mono ?_
  rintro e v1 ⟨x, k, b, rfl, h, T⟩
  have h0 := hide h
  have c1 := h.cell1
  cases b with
  | true =>
    have E := hide (end_bad T.out)
    clear T h HK HR RF
    go_wp2_with fail
    go_ret2
    exact ⟨ret_both E.out, h0.out.below⟩
  | false =>
    cases k with
    | nil =>
      have c0 : v1.cell? ⟨v.heap.size + 1, 0, none⟩ = some (.string ⟨#[]⟩) := h.cell0
      have E := hide (end_good T.out)
      clear T h HK HR RF
      go_wp2_with fail
      go_ret2
      exact ⟨ret_both E.out, h0.out.below⟩
    | cons c k =>
      have c0 := h.cell0
      have E := hide (end_left T.out)
      have hne : ¬ (txt (c :: k)).toList = [] := by rw [ByteArray.toList_eq, txt_data]; simp
      have hne2 : (txt (c :: k)).toList.isEmpty = false := by rw [ByteArray.toList_eq, txt_data]; rfl
      clear T h HK HR RF
      generalize txt (c :: k) = t at *
      go_wp2_with fail
      go_ret2
      exact ⟨ret_both E.out, h0.out.below⟩

set_option maxHeartbeats 1000000 in
set_option maxRecDepth 100000 in
theorem progParse_3 (s : ByteArray) (w : World) (hs : s.size ≤ 100000) (hT : ReadTabs w) :
    Calls Tryz.prog 9 #[.int .i64 3, .string s] w fun e w' => e = .returned (.tuple #[.int .i64 (outM (fin (weekP s.data.toList))).1, .int .i64 (outM (fin (weekP s.data.toList))).2]) ∧ Below w.heap.size w w' := by
  have HK := hide (fun w => isKind_yes 3 w (by decide) (by decide))
  have HR := hide (fun R w' h => (week_any w R s.data.toList false w' h (by simp; omega) hT).mono (fun e w'' ⟨v, k, b', he, hr, T⟩ => (⟨v, k, b', he, hr, T⟩ : ∃ v k b', e = Ending.returned (.int .i64 v) ∧ Rd w w'' R k b' ∧ Hid (Tell false (weekP s.data.toList) v k b'))))
  have RF := hide (fun o => rd_fresh w o s)
  clear hT hs
  generalize weekP s.data.toList = p at *
  go_enter Tryz.func9, Tryz.ntmps9
  go_wp2_with fail
  refine (HK.out _).mono ?_
  rintro e v ⟨rfl, rfl⟩
  go_wp2_with fail
  refine (HR.out _ _ (RF.out _)).mono ?_
  rintro e v1 ⟨x, k, b, rfl, h, T⟩
  have h0 := hide h
  have c1 := h.cell1
  cases b with
  | true =>
    have E := hide (end_bad T.out)
    clear T h HK HR RF
    go_wp2_with fail
    go_ret2
    exact ⟨ret_both E.out, h0.out.below⟩
  | false =>
    cases k with
    | nil =>
      have c0 : v1.cell? ⟨v.heap.size + 1, 0, none⟩ = some (.string ⟨#[]⟩) := h.cell0
      have E := hide (end_good T.out)
      clear T h HK HR RF
      go_wp2_with fail
      go_ret2
      exact ⟨ret_both E.out, h0.out.below⟩
    | cons c k =>
      have c0 := h.cell0
      have E := hide (end_left T.out)
      have hne : ¬ (txt (c :: k)).toList = [] := by rw [ByteArray.toList_eq, txt_data]; simp
      have hne2 : (txt (c :: k)).toList.isEmpty = false := by rw [ByteArray.toList_eq, txt_data]; rfl
      clear T h HK HR RF
      generalize txt (c :: k) = t at *
      go_wp2_with fail
      go_ret2
      exact ⟨ret_both E.out, h0.out.below⟩

set_option maxHeartbeats 1000000 in
set_option maxRecDepth 100000 in
theorem progParse_4 (s : ByteArray) (w : World) (hs : s.size ≤ 100000) (hT : ReadTabs w) :
    Calls Tryz.prog 9 #[.int .i64 4, .string s] w fun e w' => e = .returned (.tuple #[.int .i64 (outM (fin (timeP s.data.toList))).1, .int .i64 (outM (fin (timeP s.data.toList))).2]) ∧ Below w.heap.size w w' := by
  have HK := hide (fun w => isKind_yes 4 w (by decide) (by decide))
  have HR := hide (fun R w' h => (time_any w R s.data.toList false w' h (by simp; omega) hT.1).mono (fun e w'' ⟨v, k, b', he, hr, _, _, T⟩ => (⟨v, k, b', he, hr, T⟩ : ∃ v k b', e = Ending.returned (.int .i64 v) ∧ Rd w w'' R k b' ∧ Hid (Tell false (timeP s.data.toList) v k b'))))
  have RF := hide (fun o => rd_fresh w o s)
  clear hT hs
  generalize timeP s.data.toList = p at *
  go_enter Tryz.func9, Tryz.ntmps9
  go_wp2_with fail
  refine (HK.out _).mono ?_
  rintro e v ⟨rfl, rfl⟩
  go_wp2_with fail
  refine (HR.out _ _ (RF.out _)).mono ?_
  rintro e v1 ⟨x, k, b, rfl, h, T⟩
  have h0 := hide h
  have c1 := h.cell1
  cases b with
  | true =>
    have E := hide (end_bad T.out)
    clear T h HK HR RF
    go_wp2_with fail
    go_ret2
    exact ⟨ret_both E.out, h0.out.below⟩
  | false =>
    cases k with
    | nil =>
      have c0 : v1.cell? ⟨v.heap.size + 1, 0, none⟩ = some (.string ⟨#[]⟩) := h.cell0
      have E := hide (end_good T.out)
      clear T h HK HR RF
      go_wp2_with fail
      go_ret2
      exact ⟨ret_both E.out, h0.out.below⟩
    | cons c k =>
      have c0 := h.cell0
      have E := hide (end_left T.out)
      have hne : ¬ (txt (c :: k)).toList = [] := by rw [ByteArray.toList_eq, txt_data]; simp
      have hne2 : (txt (c :: k)).toList.isEmpty = false := by rw [ByteArray.toList_eq, txt_data]; rfl
      clear T h HK HR RF
      generalize txt (c :: k) = t at *
      go_wp2_with fail
      go_ret2
      exact ⟨ret_both E.out, h0.out.below⟩

set_option maxHeartbeats 1000000 in
set_option maxRecDepth 100000 in
theorem progParse_5 (s : ByteArray) (w : World) (hs : s.size ≤ 100000) (hT : ReadTabs w) :
    Calls Tryz.prog 9 #[.int .i64 5, .string s] w fun e w' => e = .returned (.tuple #[.int .i64 (outM (fin (localP s.data.toList))).1, .int .i64 (outM (fin (localP s.data.toList))).2]) ∧ Below w.heap.size w w' := by
  have HK := hide (fun w => isKind_yes 5 w (by decide) (by decide))
  have HR := hide (fun R w' h => (local_any w R s.data.toList false w' h (by simp; omega) hT).mono (fun e w'' ⟨v, k, b', he, hr, T⟩ => (⟨v, k, b', he, hr, T⟩ : ∃ v k b', e = Ending.returned (.int .i64 v) ∧ Rd w w'' R k b' ∧ Hid (Tell false (localP s.data.toList) v k b'))))
  have RF := hide (fun o => rd_fresh w o s)
  clear hT hs
  generalize localP s.data.toList = p at *
  go_enter Tryz.func9, Tryz.ntmps9
  go_wp2_with fail
  refine (HK.out _).mono ?_
  rintro e v ⟨rfl, rfl⟩
  go_wp2_with fail
  refine (HR.out _ _ (RF.out _)).mono ?_
  rintro e v1 ⟨x, k, b, rfl, h, T⟩
  have h0 := hide h
  have c1 := h.cell1
  cases b with
  | true =>
    have E := hide (end_bad T.out)
    clear T h HK HR RF
    go_wp2_with fail
    go_ret2
    exact ⟨ret_both E.out, h0.out.below⟩
  | false =>
    cases k with
    | nil =>
      have c0 : v1.cell? ⟨v.heap.size + 1, 0, none⟩ = some (.string ⟨#[]⟩) := h.cell0
      have E := hide (end_good T.out)
      clear T h HK HR RF
      go_wp2_with fail
      go_ret2
      exact ⟨ret_both E.out, h0.out.below⟩
    | cons c k =>
      have c0 := h.cell0
      have E := hide (end_left T.out)
      have hne : ¬ (txt (c :: k)).toList = [] := by rw [ByteArray.toList_eq, txt_data]; simp
      have hne2 : (txt (c :: k)).toList.isEmpty = false := by rw [ByteArray.toList_eq, txt_data]; rfl
      clear T h HK HR RF
      generalize txt (c :: k) = t at *
      go_wp2_with fail
      go_ret2
      exact ⟨ret_both E.out, h0.out.below⟩

theorem momParse_read (kind : Int) (s : ByteArray) (w : World) (hs : s.size ≤ 100000) (hT : ReadTabs w) :
    Calls Tryz.prog 9 #[.int .i64 kind, .string s] w fun e w' => e = .returned (.tuple #[.int .i64 (momV kind s.data.toList).1, .int .i64 (momV kind s.data.toList).2]) ∧ Below w.heap.size w w' := by
  by_cases hk : 1 ≤ kind ∧ kind ≤ 5
  · unfold momV
    rw [if_pos hk]
    obtain ⟨h1, h2⟩ := hk
    rcases (show kind = 1 ∨ kind = 2 ∨ kind = 3 ∨ kind = 4 ∨ kind = 5 by omega) with rfl | rfl | rfl | rfl | rfl
    · have := progParse_1 s w hs hT
      rw [date_fin] at this; exact this
    · have := progParse_2 s w hs hT
      rw [month_fin] at this; exact this
    · have := progParse_3 s w hs hT
      rw [week_fin] at this; exact this
    · have := progParse_4 s w hs hT
      rw [time_fin] at this; exact this
    · have := progParse_5 s w hs hT
      rw [local_fin] at this; exact this
  · unfold momV
    rw [if_neg hk]
    refine (parse_kind kind s w hk).mono ?_
    rintro e w' ⟨rfl, rfl⟩
    exact ⟨rfl, Below.refl _ _⟩

end Go.Proofs.YtekcbkicfoaheaaGreatDoor
