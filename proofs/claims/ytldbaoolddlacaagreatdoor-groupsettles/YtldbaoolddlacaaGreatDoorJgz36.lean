/- The document's SameInts, SameAttrs, Same of layer 10. Stage 17's wakes and its law GroupMembers, walked. -/
import Derived.Test.YtldbaoolddlacaaGreatDoorJgz29
import Derived.Test.YtldbaoolddlacaaGreatDoorJgz31
import Derived.Test.YtldbaoolddlacaaGreatDoorJgz34
import Derived.Deep.DrawnRows

namespace Go.Proofs.YtldbaoolddlacaaGreatDoor
open Go.RowKit
set_option maxRecDepth 100000
theorem list_no {α : Type} {x y : List α} {k : Nat} (h1 : k < x.length) (h2 : k < y.length) (h : ¬ x[k] = y[k]) : ¬ x = y := by
  intro e
  subst e
  exact h rfl
theorem list_yes {α : Type} {x y : List α} (hl : x.length = y.length) (h : ∀ k (h1 : k < x.length) (h2 : k < y.length), x[k] = y[k]) : x = y := List.ext_getElem hl fun k h1 h2 => h k h1 h2
theorem next_same {α : Type} {x y : List α} {k : Nat} (hd : Hid (∀ j (h1 : j < x.length) (h2 : j < y.length), j < k → x[j] = y[j])) (h1 : k < x.length) (h2 : k < y.length) (h : x[k] = y[k]) : Hid (∀ j (h1 : j < x.length) (h2 : j < y.length), j < k + 1 → x[j] = y[j]) := by
  intro j g1 g2 hj
  rcases Nat.lt_or_ge j k with q | q
  · exact hd.out j g1 g2 q
  · obtain rfl : j = k := by omega
    exact h
set_option maxHeartbeats 2000000 in
theorem refSameInts_any (va vb : Value) (x y : List Int) (w : World) (ha : IntsV w va x) (hb : IntsV w vb y) (hx : x.length ≤ 17592186044416) :
    Calls Tryz.prog 14 #[va, vb] w fun e w' => e = .returned (.bool (decide (x = y))) ∧ ∃ m, w' = w.drewN m := by
  obtain ⟨pa, ca, rfl, ha⟩ := ha
  obtain ⟨pb, cb, rfl, hb⟩ := hb
  by_cases hl : x.length = y.length
  rotate_left
  · have e1 : ((x.length : Int) != (y.length : Int)) = true := by rw [bne_iff_ne]; omega
    have E := hide (decide_eq_false (fun q : x = y => hl (by rw [q])))
    clear ha hb hl
    go_enter Tryz.func14, Tryz.ntmps14
    go_wp2_with fail
    go_ret
    exact ⟨ret_bool E.out.symm, 0, rfl⟩
  have e1 : ((x.length : Int) != (y.length : Int)) = false := by rw [hl]; simp
  have l1 : x.length ≤ y.length := by omega
  have l2 : y.length ≤ x.length := by omega
  have NO := hide (fun k h1 h2 h => decide_eq_false (list_no (x := x) (y := y) (k := k) h1 h2 h))
  have YES := hide (fun h => decide_eq_true (list_yes (x := x) (y := y) hl h))
  clear hl
  generalize decide (x = y) = R at *
  go_enter Tryz.func14, Tryz.ntmps14
  go_wp2_with fail
  go_loopw [5] (fun iv wr => ∃ j : Nat, j ≤ x.length ∧ iv = .int .i64 j ∧ Hid (∀ t (h1 : t < x.length) (h2 : t < y.length), t < j → x[t] = y[t]) ∧ ∃ m, wr = w.drewN m) (fun iv _ => x.length - (intOf iv).toNat)
  case atStart => exact ⟨0, Nat.zero_le _, rfl, fun t _ _ q => by omega, 0, rfl⟩
  case round =>
    obtain ⟨j, hj, rfl, hd, m, rfl⟩ := hrel
    by_cases h : j < x.length
    · have i1 : (j : Int) < (x.length : Int) := by omega
      have hy2 : j < y.length := by omega
      have i2 : (j : Int) < (y.length : Int) := by omega
      rcases ha with ha | ⟨b1, o1, rfl, ha⟩
      · rw [ha] at h; simp at h
      rcases hb with hb | ⟨b2, o2, rfl, hb⟩
      · rw [hb] at hy2; simp at hy2
      have c1 := ha j h
      have c2 := hb j hy2
      by_cases e : x[j] = y[j]
      · have hd' := next_same hd h hy2 e
        rw [← e] at c2
        clear hd NO YES ha hb e
        generalize x[j] = xj at *
        go_wp2_with fail
        go_quiet (fail)
        go_wp2_with fail
        go_roundw
        case rel => first | exact ⟨j + 1, by omega, by go_num, hd', _, rfl⟩ | exact ⟨j + 1, by omega, by go_num, hd', _, World.drewN_drewN w m _⟩
        case measure => simp [intOf]; omega
      · have E := hide (NO.out j h hy2 e)
        have e2 : (x[j] != y[j]) = true := by rw [bne_iff_ne]; exact e
        have e3 : (x[j] == y[j]) = false := by rw [beq_eq_false_iff_ne]; exact e
        clear hd NO YES ha hb e
        generalize x[j] = xj at *
        generalize y[j] = yj at *
        go_wp2_with fail
        go_quiet (fail)
        go_wp2_with fail
        go_ret
        first | exact ⟨ret_bool E.out.symm, _, rfl⟩ | exact ⟨ret_bool E.out.symm, _, World.drewN_drewN w m _⟩
    · obtain rfl : j = x.length := by omega
      have E := hide (YES.out (fun t h1 h2 => hd.out t h1 h2 h1))
      clear hd NO YES ha hb h
      go_wp2_with fail
      go_ret
      exact ⟨ret_bool E.out.symm, m, rfl⟩
end Go.Proofs.YtldbaoolddlacaaGreatDoor

namespace Go.Proofs.YtldbaoolddlacaaGreatDoor
open Go.RowKit
set_option maxRecDepth 100000
/-- Two radio buttons of one name. -/
def gpA : List (ByteArray × ByteArray) := [(⟨#[116, 121, 112, 101]⟩, ⟨#[114, 97, 100, 105, 111]⟩), (⟨#[110, 97, 109, 101]⟩, ⟨#[97]⟩)]
def gpL : List Nd := [⟨⟨#[104, 116, 109, 108]⟩, ⟨#[]⟩, [], -1, [1, 2]⟩, ⟨⟨#[105, 110, 112, 117, 116]⟩, ⟨#[]⟩, gpA, 0, []⟩, ⟨⟨#[105, 110, 112, 117, 116]⟩, ⟨#[]⟩, gpA, 0, []⟩]
def gpC : List Ct := [ct0, { ct0 with chk := true }, ct0]
theorem gp_mem : membersP gpL 1 = [1, 2] := by kernel_rfl
theorem gp_chk : checkO gpL gpC 2 true = ([ct0, ct0, { ct0 with chk := true, dchk := true }], 0) := by kernel_rfl
theorem gp_sz : DocSz gpL := ⟨by decide, fun n q => by
  simp only [gpL, List.mem_cons, List.not_mem_nil, or_false] at q
  have ha : ∀ a ∈ gpA, (a.1.size ≤ maxLen ∧ a.2.size ≤ maxLen) ∧ a.2.size ≤ 140737488351232 := fun a h => by
    simp only [gpA, List.mem_cons, List.not_mem_nil, or_false] at h
    rcases h with rfl | rfl <;> exact ⟨⟨by decide, by decide⟩, by decide⟩
  rcases q with rfl | rfl | rfl
  · exact ⟨by decide, by decide, (fun a q => by cases q), by decide, by decide, (fun a q => by cases q)⟩
  · exact ⟨by decide, by decide, (fun a q => (ha a q).1), by decide, by decide, (fun a q => (ha a q).2)⟩
  · exact ⟨by decide, by decide, (fun a q => (ha a q).1), by decide, by decide, (fun a q => (ha a q).2)⟩⟩
theorem gp_ok : CsOK gpC := ⟨by decide, fun c q => by
  simp only [gpC, List.mem_cons, List.not_mem_nil, or_false] at q
  rcases q with rfl | rfl | rfl <;> exact ct0_fs, fun c q => by
  simp only [gpC, List.mem_cons, List.not_mem_nil, or_false] at q
  rcases q with rfl | rfl | rfl <;> exact ⟨by decide, by decide⟩⟩
theorem gp_doc {w : World} {a k b : Nat} (h1 : Bk w a [.string ⟨#[116, 121, 112, 101]⟩, .string ⟨#[114, 97, 100, 105, 111]⟩, .string ⟨#[110, 97, 109, 101]⟩, .string ⟨#[97]⟩] 36) (h2 : Bk w k [.int .i64 1, .int .i64 2] 3) (h3 : Bk w b [.string ⟨#[104, 116, 109, 108]⟩, .string ⟨#[]⟩, .slice none 0 0, .int .i64 (-1), .slice (some ⟨k, 0, none⟩) 2 2, .string ⟨#[105, 110, 112, 117, 116]⟩, .string ⟨#[]⟩, .slice (some ⟨a, 0, none⟩) 2 2, .int .i64 0, .slice none 0 0, .string ⟨#[105, 110, 112, 117, 116]⟩, .string ⟨#[]⟩, .slice (some ⟨a, 0, none⟩) 2 2, .int .i64 0, .slice none 0 0] 40) : NodesV w (.slice (some ⟨b, 0, none⟩) 3 3) gpL := by
  refine ⟨_, 3, rfl, .inr ⟨b, 0, rfl, fun i hi => ?_⟩⟩
  have an : AttrsV w (.slice none 0 0) [] := ⟨none, 0, rfl, .inl rfl⟩
  have cn : CapOK (.slice none 0 0) := fun p n c e => by cases e; exact Nat.le_refl _
  have aa : AttrsV w (.slice (some ⟨a, 0, none⟩) 2 2) gpA := ⟨_, 2, rfl, .inr ⟨a, 0, rfl, fun j hj => by
    match j, hj with
    | 0, _ => exact ⟨h1.cell 0 rfl, h1.cell 1 rfl⟩
    | 1, _ => exact ⟨h1.cell 2 rfl, h1.cell 3 rfl⟩⟩⟩
  have ca : CapOK (.slice (some ⟨a, 0, none⟩) 2 2) := fun p n c e => by cases e; exact Nat.le_refl _
  have kn : IntsV w (.slice none 0 0) [] := ⟨none, 0, rfl, .inl rfl⟩
  match i, hi with
  | 0, _ => exact ⟨_, _, ⟨h3.cell 0 rfl, h3.cell 1 rfl, h3.cell 2 rfl, h3.cell 3 rfl, h3.cell 4 rfl, an, ⟨_, 2, rfl, .inr ⟨k, 0, rfl, fun j hj => by
      match j, hj with
      | 0, _ => exact h2.cell 0 rfl
      | 1, _ => exact h2.cell 1 rfl⟩⟩, cn⟩⟩
  | 1, _ => exact ⟨_, _, ⟨h3.cell 5 rfl, h3.cell 6 rfl, h3.cell 7 rfl, h3.cell 8 rfl, h3.cell 9 rfl, aa, kn, ca⟩⟩
  | 2, _ => exact ⟨_, _, ⟨h3.cell 10 rfl, h3.cell 11 rfl, h3.cell 12 rfl, h3.cell 13 rfl, h3.cell 14 rfl, aa, kn, ca⟩⟩
theorem gp_cts {w : World} {b : Nat} (h : Bk w b [.string ⟨#[]⟩, .bool false, .bool false, .bool false, .bool false, .bool false, .bool false, .bool false, .string ⟨#[]⟩, .slice none 0 0, .string ⟨#[]⟩, .bool false, .bool false, .bool true, .bool false, .bool false, .bool false, .bool false, .string ⟨#[]⟩, .slice none 0 0, .string ⟨#[]⟩, .bool false, .bool false, .bool false, .bool false, .bool false, .bool false, .bool false, .string ⟨#[]⟩, .slice none 0 0] 43) : CtsV w (.slice (some ⟨b, 0, none⟩) 3 3) gpC := by
  refine ⟨[.slice none 0 0, .slice none 0 0, .slice none 0 0], ⟨rfl, fun i hi => ?_⟩, _, 3, rfl, .inr ⟨b, 0, rfl, fun i hi j u hu => ?_⟩⟩
  · match i, hi with
    | 0, _ => exact files_nil w
    | 1, _ => exact files_nil w
    | 2, _ => exact files_nil w
  · match i, hi with
    | 0, _ =>
      match j, hu with
      | 0, hu => cases hu; exact h.cell 0 rfl
      | 1, hu => cases hu; exact h.cell 1 rfl
      | 2, hu => cases hu; exact h.cell 2 rfl
      | 3, hu => cases hu; exact h.cell 3 rfl
      | 4, hu => cases hu; exact h.cell 4 rfl
      | 5, hu => cases hu; exact h.cell 5 rfl
      | 6, hu => cases hu; exact h.cell 6 rfl
      | 7, hu => cases hu; exact h.cell 7 rfl
      | 8, hu => cases hu; exact h.cell 8 rfl
      | 9, hu => cases hu; exact h.cell 9 rfl
      | n + 10, hu => simp [ctCells] at hu
    | 1, _ =>
      match j, hu with
      | 0, hu => cases hu; exact h.cell 10 rfl
      | 1, hu => cases hu; exact h.cell 11 rfl
      | 2, hu => cases hu; exact h.cell 12 rfl
      | 3, hu => cases hu; exact h.cell 13 rfl
      | 4, hu => cases hu; exact h.cell 14 rfl
      | 5, hu => cases hu; exact h.cell 15 rfl
      | 6, hu => cases hu; exact h.cell 16 rfl
      | 7, hu => cases hu; exact h.cell 17 rfl
      | 8, hu => cases hu; exact h.cell 18 rfl
      | 9, hu => cases hu; exact h.cell 19 rfl
      | n + 10, hu => simp [ctCells] at hu
    | 2, _ =>
      match j, hu with
      | 0, hu => cases hu; exact h.cell 20 rfl
      | 1, hu => cases hu; exact h.cell 21 rfl
      | 2, hu => cases hu; exact h.cell 22 rfl
      | 3, hu => cases hu; exact h.cell 23 rfl
      | 4, hu => cases hu; exact h.cell 24 rfl
      | 5, hu => cases hu; exact h.cell 25 rfl
      | 6, hu => cases hu; exact h.cell 26 rfl
      | 7, hu => cases hu; exact h.cell 27 rfl
      | 8, hu => cases hu; exact h.cell 28 rfl
      | 9, hu => cases hu; exact h.cell 29 rfl
      | n + 10, hu => simp [ctCells] at hu
theorem bk_nextG {w : World} {o : Obj} {n : Nat} (h : w.heap.size = n) : (w.alloc o).heap.size = n + 1 := by rw [← h]; simp
theorem bk_atG {w : World} {cs : List Value} {t : TypeId} {n : Nat} (h : w.heap.size = n) : Bk (w.alloc (.cells cs.toArray t)) n cs t := by rw [← h]; exact Bk.new w cs t
theorem gp_world (w : World) : DocV ((((w.alloc (.cells #[.string ⟨#[116, 121, 112, 101]⟩, .string ⟨#[114, 97, 100, 105, 111]⟩, .string ⟨#[110, 97, 109, 101]⟩, .string ⟨#[97]⟩] 36)).alloc (.cells #[.int .i64 1, .int .i64 2] 3)).alloc (.cells #[.string ⟨#[104, 116, 109, 108]⟩, .string ⟨#[]⟩, .slice none 0 0, .int .i64 (-1), .slice (some ⟨w.heap.size + 1, 0, none⟩) 2 2, .string ⟨#[105, 110, 112, 117, 116]⟩, .string ⟨#[]⟩, .slice (some ⟨w.heap.size, 0, none⟩) 2 2, .int .i64 0, .slice none 0 0, .string ⟨#[105, 110, 112, 117, 116]⟩, .string ⟨#[]⟩, .slice (some ⟨w.heap.size, 0, none⟩) 2 2, .int .i64 0, .slice none 0 0] 40)).alloc (.cells #[.string ⟨#[]⟩, .bool false, .bool false, .bool false, .bool false, .bool false, .bool false, .bool false, .string ⟨#[]⟩, .slice none 0 0, .string ⟨#[]⟩, .bool false, .bool false, .bool true, .bool false, .bool false, .bool false, .bool false, .string ⟨#[]⟩, .slice none 0 0, .string ⟨#[]⟩, .bool false, .bool false, .bool false, .bool false, .bool false, .bool false, .bool false, .string ⟨#[]⟩, .slice none 0 0] 43)) (.slice (some ⟨w.heap.size + 1 + 1, 0, none⟩) 3 3) (.slice (some ⟨w.heap.size + 1 + 1 + 1, 0, none⟩) 3 3) gpL gpC ∧ Below w.heap.size w ((((w.alloc (.cells #[.string ⟨#[116, 121, 112, 101]⟩, .string ⟨#[114, 97, 100, 105, 111]⟩, .string ⟨#[110, 97, 109, 101]⟩, .string ⟨#[97]⟩] 36)).alloc (.cells #[.int .i64 1, .int .i64 2] 3)).alloc (.cells #[.string ⟨#[104, 116, 109, 108]⟩, .string ⟨#[]⟩, .slice none 0 0, .int .i64 (-1), .slice (some ⟨w.heap.size + 1, 0, none⟩) 2 2, .string ⟨#[105, 110, 112, 117, 116]⟩, .string ⟨#[]⟩, .slice (some ⟨w.heap.size, 0, none⟩) 2 2, .int .i64 0, .slice none 0 0, .string ⟨#[105, 110, 112, 117, 116]⟩, .string ⟨#[]⟩, .slice (some ⟨w.heap.size, 0, none⟩) 2 2, .int .i64 0, .slice none 0 0] 40)).alloc (.cells #[.string ⟨#[]⟩, .bool false, .bool false, .bool false, .bool false, .bool false, .bool false, .bool false, .string ⟨#[]⟩, .slice none 0 0, .string ⟨#[]⟩, .bool false, .bool false, .bool true, .bool false, .bool false, .bool false, .bool false, .string ⟨#[]⟩, .slice none 0 0, .string ⟨#[]⟩, .bool false, .bool false, .bool false, .bool false, .bool false, .bool false, .bool false, .string ⟨#[]⟩, .slice none 0 0] 43)) := by
  have s1 : (w.alloc (.cells #[.string ⟨#[116, 121, 112, 101]⟩, .string ⟨#[114, 97, 100, 105, 111]⟩, .string ⟨#[110, 97, 109, 101]⟩, .string ⟨#[97]⟩] 36)).heap.size = w.heap.size + 1 := bk_nextG rfl
  have s2 : ((w.alloc (.cells #[.string ⟨#[116, 121, 112, 101]⟩, .string ⟨#[114, 97, 100, 105, 111]⟩, .string ⟨#[110, 97, 109, 101]⟩, .string ⟨#[97]⟩] 36)).alloc (.cells #[.int .i64 1, .int .i64 2] 3)).heap.size = w.heap.size + 1 + 1 := bk_nextG s1
  have s3 : (((w.alloc (.cells #[.string ⟨#[116, 121, 112, 101]⟩, .string ⟨#[114, 97, 100, 105, 111]⟩, .string ⟨#[110, 97, 109, 101]⟩, .string ⟨#[97]⟩] 36)).alloc (.cells #[.int .i64 1, .int .i64 2] 3)).alloc (.cells #[.string ⟨#[104, 116, 109, 108]⟩, .string ⟨#[]⟩, .slice none 0 0, .int .i64 (-1), .slice (some ⟨w.heap.size + 1, 0, none⟩) 2 2, .string ⟨#[105, 110, 112, 117, 116]⟩, .string ⟨#[]⟩, .slice (some ⟨w.heap.size, 0, none⟩) 2 2, .int .i64 0, .slice none 0 0, .string ⟨#[105, 110, 112, 117, 116]⟩, .string ⟨#[]⟩, .slice (some ⟨w.heap.size, 0, none⟩) 2 2, .int .i64 0, .slice none 0 0] 40)).heap.size = w.heap.size + 1 + 1 + 1 := bk_nextG s2
  have k1 : Bk (w.alloc (.cells #[.string ⟨#[116, 121, 112, 101]⟩, .string ⟨#[114, 97, 100, 105, 111]⟩, .string ⟨#[110, 97, 109, 101]⟩, .string ⟨#[97]⟩] 36)) w.heap.size [.string ⟨#[116, 121, 112, 101]⟩, .string ⟨#[114, 97, 100, 105, 111]⟩, .string ⟨#[110, 97, 109, 101]⟩, .string ⟨#[97]⟩] 36 := bk_atG rfl
  have k2 : Bk ((w.alloc (.cells #[.string ⟨#[116, 121, 112, 101]⟩, .string ⟨#[114, 97, 100, 105, 111]⟩, .string ⟨#[110, 97, 109, 101]⟩, .string ⟨#[97]⟩] 36)).alloc (.cells #[.int .i64 1, .int .i64 2] 3)) (w.heap.size + 1) [.int .i64 1, .int .i64 2] 3 := bk_atG s1
  have k3 : Bk (((w.alloc (.cells #[.string ⟨#[116, 121, 112, 101]⟩, .string ⟨#[114, 97, 100, 105, 111]⟩, .string ⟨#[110, 97, 109, 101]⟩, .string ⟨#[97]⟩] 36)).alloc (.cells #[.int .i64 1, .int .i64 2] 3)).alloc (.cells #[.string ⟨#[104, 116, 109, 108]⟩, .string ⟨#[]⟩, .slice none 0 0, .int .i64 (-1), .slice (some ⟨w.heap.size + 1, 0, none⟩) 2 2, .string ⟨#[105, 110, 112, 117, 116]⟩, .string ⟨#[]⟩, .slice (some ⟨w.heap.size, 0, none⟩) 2 2, .int .i64 0, .slice none 0 0, .string ⟨#[105, 110, 112, 117, 116]⟩, .string ⟨#[]⟩, .slice (some ⟨w.heap.size, 0, none⟩) 2 2, .int .i64 0, .slice none 0 0] 40)) (w.heap.size + 1 + 1) [.string ⟨#[104, 116, 109, 108]⟩, .string ⟨#[]⟩, .slice none 0 0, .int .i64 (-1), .slice (some ⟨w.heap.size + 1, 0, none⟩) 2 2, .string ⟨#[105, 110, 112, 117, 116]⟩, .string ⟨#[]⟩, .slice (some ⟨w.heap.size, 0, none⟩) 2 2, .int .i64 0, .slice none 0 0, .string ⟨#[105, 110, 112, 117, 116]⟩, .string ⟨#[]⟩, .slice (some ⟨w.heap.size, 0, none⟩) 2 2, .int .i64 0, .slice none 0 0] 40 := bk_atG s2
  have k4 : Bk ((((w.alloc (.cells #[.string ⟨#[116, 121, 112, 101]⟩, .string ⟨#[114, 97, 100, 105, 111]⟩, .string ⟨#[110, 97, 109, 101]⟩, .string ⟨#[97]⟩] 36)).alloc (.cells #[.int .i64 1, .int .i64 2] 3)).alloc (.cells #[.string ⟨#[104, 116, 109, 108]⟩, .string ⟨#[]⟩, .slice none 0 0, .int .i64 (-1), .slice (some ⟨w.heap.size + 1, 0, none⟩) 2 2, .string ⟨#[105, 110, 112, 117, 116]⟩, .string ⟨#[]⟩, .slice (some ⟨w.heap.size, 0, none⟩) 2 2, .int .i64 0, .slice none 0 0, .string ⟨#[105, 110, 112, 117, 116]⟩, .string ⟨#[]⟩, .slice (some ⟨w.heap.size, 0, none⟩) 2 2, .int .i64 0, .slice none 0 0] 40)).alloc (.cells #[.string ⟨#[]⟩, .bool false, .bool false, .bool false, .bool false, .bool false, .bool false, .bool false, .string ⟨#[]⟩, .slice none 0 0, .string ⟨#[]⟩, .bool false, .bool false, .bool true, .bool false, .bool false, .bool false, .bool false, .string ⟨#[]⟩, .slice none 0 0, .string ⟨#[]⟩, .bool false, .bool false, .bool false, .bool false, .bool false, .bool false, .bool false, .string ⟨#[]⟩, .slice none 0 0] 43)) (w.heap.size + 1 + 1 + 1) [.string ⟨#[]⟩, .bool false, .bool false, .bool false, .bool false, .bool false, .bool false, .bool false, .string ⟨#[]⟩, .slice none 0 0, .string ⟨#[]⟩, .bool false, .bool false, .bool true, .bool false, .bool false, .bool false, .bool false, .string ⟨#[]⟩, .slice none 0 0, .string ⟨#[]⟩, .bool false, .bool false, .bool false, .bool false, .bool false, .bool false, .bool false, .string ⟨#[]⟩, .slice none 0 0] 43 := bk_atG s3
  have b1 : Below w.heap.size w (w.alloc (.cells #[.string ⟨#[116, 121, 112, 101]⟩, .string ⟨#[114, 97, 100, 105, 111]⟩, .string ⟨#[110, 97, 109, 101]⟩, .string ⟨#[97]⟩] 36)) := (Below.refl _ w).alloc (Nat.le_refl _) _
  have b2 : Below (w.alloc (.cells #[.string ⟨#[116, 121, 112, 101]⟩, .string ⟨#[114, 97, 100, 105, 111]⟩, .string ⟨#[110, 97, 109, 101]⟩, .string ⟨#[97]⟩] 36)).heap.size (w.alloc (.cells #[.string ⟨#[116, 121, 112, 101]⟩, .string ⟨#[114, 97, 100, 105, 111]⟩, .string ⟨#[110, 97, 109, 101]⟩, .string ⟨#[97]⟩] 36)) ((w.alloc (.cells #[.string ⟨#[116, 121, 112, 101]⟩, .string ⟨#[114, 97, 100, 105, 111]⟩, .string ⟨#[110, 97, 109, 101]⟩, .string ⟨#[97]⟩] 36)).alloc (.cells #[.int .i64 1, .int .i64 2] 3)) := (Below.refl _ _).alloc (Nat.le_refl _) _
  have b3 : Below ((w.alloc (.cells #[.string ⟨#[116, 121, 112, 101]⟩, .string ⟨#[114, 97, 100, 105, 111]⟩, .string ⟨#[110, 97, 109, 101]⟩, .string ⟨#[97]⟩] 36)).alloc (.cells #[.int .i64 1, .int .i64 2] 3)).heap.size ((w.alloc (.cells #[.string ⟨#[116, 121, 112, 101]⟩, .string ⟨#[114, 97, 100, 105, 111]⟩, .string ⟨#[110, 97, 109, 101]⟩, .string ⟨#[97]⟩] 36)).alloc (.cells #[.int .i64 1, .int .i64 2] 3)) (((w.alloc (.cells #[.string ⟨#[116, 121, 112, 101]⟩, .string ⟨#[114, 97, 100, 105, 111]⟩, .string ⟨#[110, 97, 109, 101]⟩, .string ⟨#[97]⟩] 36)).alloc (.cells #[.int .i64 1, .int .i64 2] 3)).alloc (.cells #[.string ⟨#[104, 116, 109, 108]⟩, .string ⟨#[]⟩, .slice none 0 0, .int .i64 (-1), .slice (some ⟨w.heap.size + 1, 0, none⟩) 2 2, .string ⟨#[105, 110, 112, 117, 116]⟩, .string ⟨#[]⟩, .slice (some ⟨w.heap.size, 0, none⟩) 2 2, .int .i64 0, .slice none 0 0, .string ⟨#[105, 110, 112, 117, 116]⟩, .string ⟨#[]⟩, .slice (some ⟨w.heap.size, 0, none⟩) 2 2, .int .i64 0, .slice none 0 0] 40)) := (Below.refl _ _).alloc (Nat.le_refl _) _
  have b4 : Below (((w.alloc (.cells #[.string ⟨#[116, 121, 112, 101]⟩, .string ⟨#[114, 97, 100, 105, 111]⟩, .string ⟨#[110, 97, 109, 101]⟩, .string ⟨#[97]⟩] 36)).alloc (.cells #[.int .i64 1, .int .i64 2] 3)).alloc (.cells #[.string ⟨#[104, 116, 109, 108]⟩, .string ⟨#[]⟩, .slice none 0 0, .int .i64 (-1), .slice (some ⟨w.heap.size + 1, 0, none⟩) 2 2, .string ⟨#[105, 110, 112, 117, 116]⟩, .string ⟨#[]⟩, .slice (some ⟨w.heap.size, 0, none⟩) 2 2, .int .i64 0, .slice none 0 0, .string ⟨#[105, 110, 112, 117, 116]⟩, .string ⟨#[]⟩, .slice (some ⟨w.heap.size, 0, none⟩) 2 2, .int .i64 0, .slice none 0 0] 40)).heap.size (((w.alloc (.cells #[.string ⟨#[116, 121, 112, 101]⟩, .string ⟨#[114, 97, 100, 105, 111]⟩, .string ⟨#[110, 97, 109, 101]⟩, .string ⟨#[97]⟩] 36)).alloc (.cells #[.int .i64 1, .int .i64 2] 3)).alloc (.cells #[.string ⟨#[104, 116, 109, 108]⟩, .string ⟨#[]⟩, .slice none 0 0, .int .i64 (-1), .slice (some ⟨w.heap.size + 1, 0, none⟩) 2 2, .string ⟨#[105, 110, 112, 117, 116]⟩, .string ⟨#[]⟩, .slice (some ⟨w.heap.size, 0, none⟩) 2 2, .int .i64 0, .slice none 0 0, .string ⟨#[105, 110, 112, 117, 116]⟩, .string ⟨#[]⟩, .slice (some ⟨w.heap.size, 0, none⟩) 2 2, .int .i64 0, .slice none 0 0] 40)) ((((w.alloc (.cells #[.string ⟨#[116, 121, 112, 101]⟩, .string ⟨#[114, 97, 100, 105, 111]⟩, .string ⟨#[110, 97, 109, 101]⟩, .string ⟨#[97]⟩] 36)).alloc (.cells #[.int .i64 1, .int .i64 2] 3)).alloc (.cells #[.string ⟨#[104, 116, 109, 108]⟩, .string ⟨#[]⟩, .slice none 0 0, .int .i64 (-1), .slice (some ⟨w.heap.size + 1, 0, none⟩) 2 2, .string ⟨#[105, 110, 112, 117, 116]⟩, .string ⟨#[]⟩, .slice (some ⟨w.heap.size, 0, none⟩) 2 2, .int .i64 0, .slice none 0 0, .string ⟨#[105, 110, 112, 117, 116]⟩, .string ⟨#[]⟩, .slice (some ⟨w.heap.size, 0, none⟩) 2 2, .int .i64 0, .slice none 0 0] 40)).alloc (.cells #[.string ⟨#[]⟩, .bool false, .bool false, .bool false, .bool false, .bool false, .bool false, .bool false, .string ⟨#[]⟩, .slice none 0 0, .string ⟨#[]⟩, .bool false, .bool false, .bool true, .bool false, .bool false, .bool false, .bool false, .string ⟨#[]⟩, .slice none 0 0, .string ⟨#[]⟩, .bool false, .bool false, .bool false, .bool false, .bool false, .bool false, .bool false, .string ⟨#[]⟩, .slice none 0 0] 43)) := (Below.refl _ _).alloc (Nat.le_refl _) _
  exact ⟨⟨gp_doc (((k1.below b2).below b3).below b4) ((k2.below b3).below b4) (k3.below b4), gp_cts k4⟩, chain (chain (chain b1 b2) b3) b4⟩
theorem ints_12 (w : World) : IntsV (w.alloc (.cells #[.int .i64 1, .int .i64 2] 3)) (.slice (some ⟨w.heap.size, 0, none⟩) 2 2) [1, 2] := ⟨_, 2, rfl, .inr ⟨w.heap.size, 0, rfl, fun j hj => by
  match j, hj with
  | 0, _ => exact (Bk.new w [.int .i64 1, .int .i64 2] 3).cell 0 rfl
  | 1, _ => exact (Bk.new w [.int .i64 1, .int .i64 2] 3).cell 1 rfl⟩⟩
theorem dr_below (w : World) (n : Nat) : Below w.heap.size w (w.drewN n) := ⟨rfl, rfl, rfl, Nat.le_refl _, fun _ _ => rfl⟩
theorem cts_chkG {w : World} {v : Value} {C : List Ct} (h : CtsV w v C) (h0 : 0 < C.length) : ∃ b o k, v = .slice (some ⟨b, o, none⟩) C.length k ∧ ∀ i (hi : i < C.length), w.cell? ⟨b, o + i * 10 + 3, none⟩ = some (.bool C[i].chk) := by
  obtain ⟨F, _, p, k, e, h⟩ := h
  rcases h with h | ⟨b, o, rfl, h⟩
  · rw [h] at h0; cases h0
  · exact ⟨b, o, k, e, fun i hi => h i hi 3 _ rfl⟩
set_option maxHeartbeats 8000000 in
theorem gpWakes_any (w : World) (hT : GpTabs w) :
    Calls Tryz.prog 5 #[] w fun e w' => e = .returned (.bool true) ∧ Below w.heap.size w w' := by
  have EW := hide (gp_world w)
  have H1 := hide (fun nv cv W (hb : Below w.heap.size w W) (hd : DocV W nv cv gpL gpC) => gpCheck_any nv cv gpL gpC 2 true W hd gp_sz gp_ok (hT.below hb))
  have H2 := hide (fun v W (hb : Below w.heap.size w W) (hv : NodesV W v gpL) => gpMembers_any v gpL 1 W hv gp_sz (hT.below hb))
  rw [gp_chk] at H1
  rw [gp_mem] at H2
  have H5 := hide (fun va vb W (ha : IntsV W va [1, 2]) (hb : IntsV W vb [1, 2]) => refSameInts_any va vb [1, 2] [1, 2] W ha hb (by decide))
  rw [show decide (([1, 2] : List Int) = [1, 2]) = true from by decide] at H5
  clear hT
  go_enter Tryz.func5, Tryz.ntmps5
  go_wp2_with fail
  refine (H1.out _ _ _ EW.out.2 EW.out.1).mono ?_
  rintro e w1 ⟨v1, rfl, g1, b1⟩
  have N1 := hide (EW.out.1.nds.below b1)
  have B1 := hide (chain EW.out.2 b1)
  have G1 := hide g1
  obtain ⟨cb, co, ck, rfl, _⟩ := cts_chkG g1 (by decide)
  clear EW b1 g1
  go_wp2_with fail
  refine (H2.out _ _ B1.out N1.out).mono ?_
  rintro e w2 ⟨v2, rfl, i2, b2⟩
  have B2 := hide (chain B1.out b2)
  have G2 := hide (G1.out.below b2)
  have AL : Hid (Below w2.heap.size w2 (w2.alloc (.cells #[.int .i64 1, .int .i64 2] 3))) := (Below.refl _ w2).alloc (Nat.le_refl _) _
  have I2 := hide (i2.below AL.out)
  have J2 := hide (ints_12 w2)
  obtain ⟨p2, k2, rfl, _⟩ := i2
  go_wp2_with fail
  refine (H5.out _ _ _ I2.out J2.out).mono ?_
  rintro e u ⟨rfl, nn, rfl⟩
  have DN := hide (dr_below (w2.alloc (.cells #[.int .i64 1, .int .i64 2] 3)) nn)
  obtain ⟨_, _, _, ea, ha⟩ := cts_chkG ((G2.out.below AL.out).below DN.out) (by decide)
  cases ea
  have a1 := ha 1 (by decide)
  have a2 := ha 2 (by decide)
  simp only [List.getElem_cons_succ, List.getElem_cons_zero] at a1 a2
  rw [show ct0.chk = false from rfl] at a1
  have BE := hide (chain (chain B2.out AL.out) DN.out)
  clear ha G2 AL DN I2 J2 G1 N1 B1 B2 H1 H2 H5 b2
  go_wp2_with fail
  go_ret
  exact ⟨rfl, BE.out⟩

end Go.Proofs.YtldbaoolddlacaaGreatDoor
