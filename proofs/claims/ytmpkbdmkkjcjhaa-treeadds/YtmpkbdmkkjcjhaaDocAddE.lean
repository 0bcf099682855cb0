/- The errors of the program's Add of layer 10. Conditions: as there. -/
import Derived.Test.YtmpkbdmkkjcjhaaDocAdd
namespace Go.Proofs.Ytmpkbdmkkjcjhaa
open Go.RowKit

set_option maxHeartbeats 2000000 in
theorem add_wrong (v : Value) (l : List Nd) (name text : ByteArray) (w : World) (hv : NodesV w v l) (hz : DocSz l) (_hs : name.size ≤ maxLen) (hR : rightB l = false) :
    Calls Try.prog 13 #[v, .string name, .string text] w fun e w' => e = .returned (.tuple #[.slice none 0 0, .int .i64 0, .int .i64 4]) ∧ Below w.heap.size w w' := by
  have HR := hide (right_any v l w hv hz)
  rw [hR] at HR
  clear hv hz
  go_enter Try.func13, Try.ntmps13
  go_wp2_with fail
  refine HR.out.mono ?_
  rintro e w0 ⟨rfl, b0⟩
  go_wp2_with fail
  go_ret3
  exact ⟨rfl, b0⟩

set_option maxHeartbeats 2000000 in
theorem add_name (v : Value) (l : List Nd) (name text : ByteArray) (w : World) (hv : NodesV w v l) (hz : DocSz l) (hs : name.size ≤ maxLen) (hR : Right l) (h1 : noName name = false) (h2 : nameOk name = false) :
    Calls Try.prog 13 #[v, .string name, .string text] w fun e w' => e = .returned (.tuple #[.slice none 0 0, .int .i64 0, .int .i64 7]) ∧ Below w.heap.size w w' := by
  have HR := hide (right_any v l w hv hz)
  rw [right_is.2 hR] at HR
  have HN := hide (fun W => isName_any name W hs)
  rw [h2] at HN
  have e1 := noName_false h1
  have e4 : (name.toList == []) = false := by rw [beq_eq_false_iff_ne]; exact e1
  have e5 : name.toList.isEmpty = false := by cases h : name.toList with
    | nil => exact absurd h e1
    | cons => rfl
  have e6 := noName_size' h1
  have e7 : (0 : Int) < (name.size : Int) := by omega
  clear hv hz hs hR h1 h2
  go_enter Try.func13, Try.ntmps13
  go_wp2_with fail
  refine HR.out.mono ?_
  rintro e w0 ⟨rfl, b0⟩
  go_wp2_with fail
  refine (HN.out _).mono ?_
  rintro e w1 ⟨rfl, hw⟩
  obtain rfl : w0 = w1 := hw.symm
  go_wp2_with fail
  go_ret3
  exact ⟨rfl, b0⟩

set_option maxHeartbeats 2000000 in
theorem add_range_t (v : Value) (l : List Nd) (name text : ByteArray) (w : World) (hv : NodesV w v l) (hz : DocSz l) (hs : name.size ≤ maxLen) (hR : Right l) (ht : 4000 < text.size) (h1 : noName name = true) :
    Calls Try.prog 13 #[v, .string name, .string text] w fun e w' => e = .returned (.tuple #[.slice none 0 0, .int .i64 0, .int .i64 2]) ∧ Below w.heap.size w w' := by
  have HR := hide (right_any v l w hv hz)
  rw [right_is.2 hR] at HR
  have HN := hide (fun W => isName_any name W hs)
  have e1 := noName_nil h1
  have e4 : (name.toList == []) = true := by rw [e1]; rfl
  have e6 := noName_size h1
  have e7 : ¬ (0 : Int) < (name.size : Int) := by omega
  have t1 : (4000 : Int) < (text.size : Int) := by omega
  clear hv hz hs hR
  go_enter Try.func13, Try.ntmps13
  go_wp2_with fail
  refine HR.out.mono ?_
  rintro e w0 ⟨rfl, b0⟩
  go_wp2_with fail
  go_ret3
  exact ⟨rfl, b0⟩

set_option maxHeartbeats 2000000 in
theorem add_range_u (v : Value) (l : List Nd) (name text : ByteArray) (w : World) (hv : NodesV w v l) (hz : DocSz l) (hs : name.size ≤ maxLen) (hR : Right l) (ht : 4000 < text.size) (h1 : noName name = false) (h2 : nameOk name = true) :
    Calls Try.prog 13 #[v, .string name, .string text] w fun e w' => e = .returned (.tuple #[.slice none 0 0, .int .i64 0, .int .i64 2]) ∧ Below w.heap.size w w' := by
  have HR := hide (right_any v l w hv hz)
  rw [right_is.2 hR] at HR
  have HN := hide (fun W => isName_any name W hs)
  rw [h2] at HN
  have e1 := noName_false h1
  have e4 : (name.toList == []) = false := by rw [beq_eq_false_iff_ne]; exact e1
  have e5 : name.toList.isEmpty = false := by cases h : name.toList with
    | nil => exact absurd h e1
    | cons => rfl
  have e6 := noName_size' h1
  have e7 : (0 : Int) < (name.size : Int) := by omega
  have t1 : (4000 : Int) < (text.size : Int) := by omega
  clear hv hz hs hR
  go_enter Try.func13, Try.ntmps13
  go_wp2_with fail
  refine HR.out.mono ?_
  rintro e w0 ⟨rfl, b0⟩
  go_wp2_with fail
  refine (HN.out _).mono ?_
  rintro e w1 ⟨rfl, hw⟩
  obtain rfl : w0 = w1 := hw.symm
  go_wp2_with fail
  go_ret3
  exact ⟨rfl, b0⟩

set_option maxHeartbeats 2000000 in
theorem add_range_b (v : Value) (l : List Nd) (name text : ByteArray) (w : World) (hv : NodesV w v l) (hz : DocSz l) (hs : name.size ≤ maxLen) (hR : Right l) (ht : text.size ≤ 4000) (h1 : noName name = false) (h2 : nameOk name = true) (h3 : noName text = false) :
    Calls Try.prog 13 #[v, .string name, .string text] w fun e w' => e = .returned (.tuple #[.slice none 0 0, .int .i64 0, .int .i64 2]) ∧ Below w.heap.size w w' := by
  have HR := hide (right_any v l w hv hz)
  rw [right_is.2 hR] at HR
  have HN := hide (fun W => isName_any name W hs)
  rw [h2] at HN
  have e1 := noName_false h1
  have e4 : (name.toList == []) = false := by rw [beq_eq_false_iff_ne]; exact e1
  have e5 : name.toList.isEmpty = false := by cases h : name.toList with
    | nil => exact absurd h e1
    | cons => rfl
  have e6 := noName_size' h1
  have e7 : (0 : Int) < (name.size : Int) := by omega
  have t1 : ¬ (4000 : Int) < (text.size : Int) := by omega
  have f1 := noName_false h3
  have f4 : (text.toList == []) = false := by rw [beq_eq_false_iff_ne]; exact f1
  have f5 : text.toList.isEmpty = false := by cases h : text.toList with
    | nil => exact absurd h f1
    | cons => rfl
  have f6 := noName_size' h3
  have f7 : (0 : Int) < (text.size : Int) := by omega
  clear hv hz hs hR
  go_enter Try.func13, Try.ntmps13
  go_wp2_with fail
  refine HR.out.mono ?_
  rintro e w0 ⟨rfl, b0⟩
  go_wp2_with fail
  refine (HN.out _).mono ?_
  rintro e w1 ⟨rfl, hw⟩
  obtain rfl : w0 = w1 := hw.symm
  go_wp2_with fail
  go_ret3
  exact ⟨rfl, b0⟩

set_option maxHeartbeats 2000000 in
theorem add_full_t (v : Value) (l : List Nd) (name text : ByteArray) (w : World) (hv : NodesV w v l) (hz : DocSz l) (hs : name.size ≤ maxLen) (hR : Right l) (hl : 400 ≤ l.length) (h1 : noName name = true) (ht : text.size ≤ 4000) :
    Calls Try.prog 13 #[v, .string name, .string text] w fun e w' => e = .returned (.tuple #[.slice none 0 0, .int .i64 0, .int .i64 6]) ∧ Below w.heap.size w w' := by
  have HR := hide (right_any v l w hv hz)
  rw [right_is.2 hR] at HR
  have HN := hide (fun W => isName_any name W hs)
  have e1 := noName_nil h1
  have e4 : (name.toList == []) = true := by rw [e1]; rfl
  have e6 := noName_size h1
  have e7 : ¬ (0 : Int) < (name.size : Int) := by omega
  have t1 : ¬ (4000 : Int) < (text.size : Int) := by omega
  have i4 : (400 : Int) ≤ (l.length : Int) := by omega
  obtain ⟨pp, cc, rfl, _⟩ := hv
  clear hz hs hR
  go_enter Try.func13, Try.ntmps13
  go_wp2_with fail
  refine HR.out.mono ?_
  rintro e w0 ⟨rfl, b0⟩
  go_wp2_with fail
  go_ret3
  exact ⟨rfl, b0⟩

set_option maxHeartbeats 2000000 in
theorem add_full_b (v : Value) (l : List Nd) (name text : ByteArray) (w : World) (hv : NodesV w v l) (hz : DocSz l) (hs : name.size ≤ maxLen) (hR : Right l) (hl : 400 ≤ l.length) (h1 : noName name = false) (h2 : nameOk name = true) (h3 : noName text = true) :
    Calls Try.prog 13 #[v, .string name, .string text] w fun e w' => e = .returned (.tuple #[.slice none 0 0, .int .i64 0, .int .i64 6]) ∧ Below w.heap.size w w' := by
  have HR := hide (right_any v l w hv hz)
  rw [right_is.2 hR] at HR
  have HN := hide (fun W => isName_any name W hs)
  rw [h2] at HN
  have e1 := noName_false h1
  have e4 : (name.toList == []) = false := by rw [beq_eq_false_iff_ne]; exact e1
  have e5 : name.toList.isEmpty = false := by cases h : name.toList with
    | nil => exact absurd h e1
    | cons => rfl
  have e6 := noName_size' h1
  have e7 : (0 : Int) < (name.size : Int) := by omega
  have f1 := noName_nil h3
  have f4 : (text.toList == []) = true := by rw [f1]; rfl
  have f6 := noName_size h3
  have f7 : ¬ (0 : Int) < (text.size : Int) := by omega
  have t1 : ¬ (4000 : Int) < (text.size : Int) := by omega
  have i4 : (400 : Int) ≤ (l.length : Int) := by omega
  obtain ⟨pp, cc, rfl, _⟩ := hv
  clear hz hs hR
  go_enter Try.func13, Try.ntmps13
  go_wp2_with fail
  refine HR.out.mono ?_
  rintro e w0 ⟨rfl, b0⟩
  go_wp2_with fail
  refine (HN.out _).mono ?_
  rintro e w1 ⟨rfl, hw⟩
  obtain rfl : w0 = w1 := hw.symm
  go_wp2_with fail
  go_ret3
  exact ⟨rfl, b0⟩


end Go.Proofs.Ytmpkbdmkkjcjhaa
