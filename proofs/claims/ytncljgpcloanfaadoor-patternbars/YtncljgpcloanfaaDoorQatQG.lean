/- The program's 'read' and 'Right': they answer by 'patOf' and 'rightL'. Condition: the two tables of unicode/utf8 hold what the program's text lays. -/
import Derived.Test.YtncljgpcloanfaaDoorQatGroups
import Derived.Test.YtncljgpcloanfaaDoorQatR9
import Derived.Test.YtncljgpcloanfaaDoorValidWalks
import Derived.Laws.IdiomStrings
namespace Go.Proofs.YtncljgpcloanfaaDoor
open Go.RowKit

def cellR (c : Nat) : Value := .int .i32 (c : Int)
theorem runes_from (s : ByteArray) : ∀ (b i : Nat) (acc : Array Value), s.size ≤ i + b → (Conv.runesFrom s b i acc).toList = acc.toList ++ (signsL (s.data.toList.drop i)).map cellR
  | 0, i, acc, h => by
    rw [List.drop_eq_nil_of_le (by simpa using h)]; simp [Conv.runesFrom, signs_nil]
  | b + 1, i, acc, h => by
    unfold Conv.runesFrom
    by_cases hi : i < s.size
    · rw [if_pos hi]
      have hw := Lib.decode_width_pos s i hi
      simp only
      rw [runes_from s b _ _ (by omega), signs_at hi]
      simp [cellR]
    · rw [if_neg hi, List.drop_eq_nil_of_le (by simp; omega)]; simp [signs_nil]
theorem runes_all (s : ByteArray) : Conv.runesFrom s s.size 0 #[] = ((signsL s.data.toList).map cellR).toArray := by
  apply Array.ext'
  rw [runes_from s s.size 0 #[] (by omega)]; simp
theorem Tabs.below {w w' : World} (h : Tabs w) (hb : Below w.heap.size w w') : Tabs w' := by
  exact ⟨fun c hc => (hb.cell (World.block_lt_of_cell? _ _ (h.1 c hc))).trans (h.1 c hc), fun i hi => ⟨(hb.cell (World.block_lt_of_cell? _ _ (h.2 i hi).1)).trans (h.2 i hi).1, (hb.cell (World.block_lt_of_cell? _ _ (h.2 i hi).2)).trans (h.2 i hi).2⟩⟩
/-- What 'read' answers. -/
def ReadPost (w : World) (p : List UInt8) (e : Ending) (w' : World) : Prop :=
  (∃ rv b, e = .returned (.tuple #[.agg #[rv], .bool b]) ∧ (∃ q n c, rv = .slice q n c) ∧ ((b = false ∧ rightL p = false) ∨ (b = true ∧ rightL p = true ∧ ∃ x hp, patOf p = some x ∧ GroupIs hp (AtomIs hp 8) rv x ∧ hp.In w' ∧ hp.From w.heap.size))) ∧ Below w.heap.size w w'
theorem right_len {p : List UInt8} (h : 200 < p.length) : rightL p = false := by unfold rightL; rw [decide_eq_false (by omega)]; rfl
theorem right_valid {p : List UInt8} (h : Lib.validD p = false) : rightL p = false := by unfold rightL; rw [h, Bool.false_and, Bool.and_false]
theorem right_none {p : List UInt8} (h : patOf p = none) : rightL p = false := by unfold rightL; rw [h]; simp
theorem But.toBelow {R : Nat} {w w0 w' : World} (h : But R w0 w') (hb : Below w.heap.size w w0) (hR : w.heap.size ≤ R) : Below w.heap.size w w' :=
  hb.trans ⟨h.os, h.tape, h.output, h.size, fun k hk => h.block k (Nat.lt_of_lt_of_le hk hb.size) (by simp; omega)⟩
theorem belowN {B : Nat} {a w : World} (h : Below B a w) (n : Nat) : Below B a (w.drewN n) := h.trans ⟨rfl, rfl, rfl, Nat.le_refl _, fun _ _ => rfl⟩
theorem grown_drew (w : World) (row : Option Nat) : w.grownBy w.drew row := ⟨rfl, rfl, rfl, Nat.le_refl _, fun _ _ _ => rfl⟩

set_option maxHeartbeats 8000000 in
theorem read_bad (s : ByteArray) (w : World) (hT : Tabs w) (h : 200 < s.size ∨ (s.size ≤ 200 ∧ validS s = false)) :
    Calls Tryd.prog 16 #[.string s] w (ReadPost w s.data.toList) := by
  rcases h with h | ⟨h1, h2⟩
  · have i1 : (200 : Int) < (s.size : Int) := by omega
    have RES := hide (right_len (p := s.data.toList) (by simpa using h))
    clear h
    go_enter Tryd.func16, Tryd.ntmps16
    go_wp2_with fail
    refine bodyPost_ret (v := .tuple #[.agg #[.slice none 0 0], .bool false]) (by simp [results, go_sem]) rfl ?_
    exact ⟨⟨_, _, rfl, ⟨_, _, _, rfl⟩, .inl ⟨rfl, RES.out⟩⟩, by first | exact (Below.refl _ _).alloc (Nat.le_refl _) _ | exact ((Below.refl _ _).alloc (Nat.le_refl _) _).setCell (Nat.le_refl _) _⟩
  · have i1 : (s.size : Int) ≤ 200 := by omega
    have RES := hide (right_valid (p := s.data.toList) h2)
    have HV := hide (fun w1 (h : Tabs w1) => valid_any s w1 (by omega) h)
    rw [h2] at HV
    have T1 : Tabs (w.alloc (.cells #[.slice none 0 0] 37)) := hT.below ((Below.refl _ _).alloc (Nat.le_refl _) _)
    clear h2
    go_enter Tryd.func16, Tryd.ntmps16
    go_wp2_with fail
    refine (HV.out _ T1).mono ?_
    rintro e w1 ⟨rfl, b1⟩
    have D0 := heap_alloc_new w (.cells #[.slice none 0 0] 37)
    have D1 : w1.heap[w.heap.size]? = _ := (b1.block _ (by simp)).trans D0
    obtain ⟨d0, df⟩ := cells1_at D1
    have B0 := (Below.refl w.heap.size w).alloc (Nat.le_refl _) (.cells #[.slice none 0 0] 37)
    have B1 := B0.trans (b1.mono (by simp))
    go_wp2_with fail
    refine bodyPost_ret (v := .tuple #[.agg #[.slice none 0 0], .bool false]) (by simp [results, go_sem, *]) rfl ?_
    exact ⟨⟨_, _, rfl, ⟨_, _, _, rfl⟩, .inl ⟨rfl, RES.out⟩⟩, B1.setCell (Nat.le_refl _) _⟩
set_option maxHeartbeats 8000000 in
theorem read_ok (s : ByteArray) (w : World) (hT : Tabs w) (h1 : s.size ≤ 200) (h2 : validS s = true) :
    Calls Tryd.prog 16 #[.string s] w (ReadPost w s.data.toList) := by
  have i1 : (s.size : Int) ≤ 200 := by omega
  have HV := hide (fun w1 (h : Tabs w1) => valid_any s w1 (by omega) h)
  rw [h2] at HV
  have T1 : Tabs (w.alloc (.cells #[.slice none 0 0] 37)) := hT.below ((Below.refl _ _).alloc (Nat.le_refl _) _)
  have H2 := hide h2
  have sl := signs_len _ s.data.toList (Nat.le_refl _)
  have sm := signs_small _ s.data.toList (Nat.le_refl _)
  rw [show s.data.toList.length = s.size by simp] at sl
  have RA := runes_all s
  have PO : Hid (∀ x r, rowsD 8 (signsL s.data.toList) = some (x, r) → r = [] → patOf s.data.toList = some x) := fun x r e er => patOf_some.2 (by rw [e, er])
  have PN : Hid (rowsD 8 (signsL s.data.toList) = none → rightL s.data.toList = false) := fun e => right_none (by unfold patOf; rw [e])
  have PM : Hid (∀ x c r, rowsD 8 (signsL s.data.toList) = some (x, c :: r) → rightL s.data.toList = false) := fun x c r e => right_none (by unfold patOf; rw [e])
  have PY : Hid (∀ x, patOf s.data.toList = some x → rightL s.data.toList = true) := fun x e => right_iff.2 ⟨by simpa using h1, h2, x, e⟩
  clear h2
  generalize signsL s.data.toList = l at *
  have CV : ∀ w, (convert 9 48 (.string s)).run Tryd.prog w = .ok (.slice (some ⟨w.heap.size, 0, none⟩) l.length (grownCap w l.length 0 21)) (w.drew.alloc (.cells ((l.map cellR).toArray ++ Array.replicate (grownCap w l.length 0 21 - l.length) (.int .i32 0)) 21)) := by
    intro w
    have e := run_runes_of_string (P := Tryd.prog) w 9 48 21 s Tryd.underlying9 Tryd.underlying48 Tryd.underlying21 (by rw [RA]; simp; omega)
    rw [RA] at e
    simpa using e
  clear RA
  go_enter Tryd.func16, Tryd.ntmps16
  go_wp2_with fail
  refine (HV.out _ T1).mono ?_
  rintro e w1 ⟨rfl, b1⟩
  have D0 := heap_alloc_new w (.cells #[.slice none 0 0] 37)
  have D1 : w1.heap[w.heap.size]? = _ := (b1.block _ (by simp)).trans D0
  have B0 := (Below.refl w.heap.size w).alloc (Nat.le_refl _) (.cells #[.slice none 0 0] 37)
  have B1 := hide (B0.trans (b1.mono (by simp)))
  have lD : w.heap.size < w1.heap.size := (Array.getElem?_eq_some_iff.1 D1).1
  clear b1 B0 D0 T1
  go_wp2_with fail
  generalize hcap : grownCap w1 l.length 0 21 = cap at *
  clear hcap
  generalize hA : (Obj.cells ((l.map cellR).toArray ++ Array.replicate (cap - l.length) (.int .i32 0)) 21) = A at *
  have AL : ∀ i (h : i < l.length), (w1.alloc A).cell? ⟨w1.heap.size, i, none⟩ = some (.int .i32 (l[i] : Nat)) := by
    intro i hi
    have e : (w1.alloc A).heap[w1.heap.size]? = some A := heap_alloc_new w1 A
    rw [← hA] at e ⊢
    rw [cell_of_row _ _ i _ _ _ e, Array.getElem?_append_left (by simpa using hi)]
    simp [hi, cellR]
  have RD : Rdr ((w1.alloc A).alloc (.cells #[.slice (some ⟨w1.heap.size, 0, none⟩) l.length cap, .int .i64 0, .int .i64 0] 50)).drew (w1.heap.size + 1) w1.heap.size cap l 0 0 := by
    refine ⟨?_, fun i hi => ?_, by omega, ?_, Nat.zero_le _, by omega, sm, by omega⟩
    · have e := heap_alloc_new (w1.alloc A) (.cells #[.slice (some ⟨w1.heap.size, 0, none⟩) l.length cap, .int .i64 0, .int .i64 0] 50)
      rw [show (w1.alloc A).heap.size = w1.heap.size + 1 by simp] at e
      exact e
    · have e := AL i hi
      exact ((World.grownBy_alloc (w1.alloc A) _ none).cell_far ⟨w1.heap.size, i, none⟩ (by simp) (by simp)).trans e
    · show w1.heap.size < ((w1.alloc A).alloc _).heap.size
      simp; omega
  have D2 : ((w1.alloc A).alloc (.cells #[.slice (some ⟨w1.heap.size, 0, none⟩) l.length cap, .int .i64 0, .int .i64 0] 50)).drew.heap[w.heap.size]? = some (.cells #[.slice none 0 0] 37 (0, 0)) :=
    grown_heap (World.grownBy_alloc (w1.alloc A) _ none) (grown_heap (World.grownBy_alloc w1 A none) D1 (by simp)) (by simp)
  have B2 : Below w.heap.size w ((w1.alloc A).alloc (.cells #[.slice (some ⟨w1.heap.size, 0, none⟩) l.length cap, .int .i64 0, .int .i64 0] 50)).drew :=
    ((B1.out.alloc (by omega) _).alloc (by simp; omega) _).drew
  have SZ : ((w1.alloc A).alloc (.cells #[.slice (some ⟨w1.heap.size, 0, none⟩) l.length cap, .int .i64 0, .int .i64 0] 50)).drew.heap.size = w1.heap.size + 2 := by
    show ((w1.alloc A).alloc _).heap.size = _
    simp
  have HG := hide (group_any 8 0 (by omega) _ _ _ _ _ _ RD)
  have B2 := hide B2
  have SZ := hide SZ
  clear AL hA CV HV sm D1 B1 RD
  generalize ((w1.alloc A).alloc (.cells #[.slice (some ⟨w1.heap.size, 0, none⟩) l.length cap, .int .i64 0, .int .i64 0] 50)).drew = w3 at *
  refine HG.out.mono ?_
  rintro e w4 ⟨⟨rv, b, rfl, ⟨q, n, c3, rfl⟩, hv, a4, a4l, ha4, r4⟩, b4⟩
  have D4 := b4.heap D2 (by omega)
  have lD4 : w.heap.size < w4.heap.size := (Array.getElem?_eq_some_iff.1 D4).1
  have B4 := hide (b4.toBelow B2.out (by omega))
  have sz4 := b4.size
  rw [SZ.out] at sz4
  have r5 := r4.alloc (.cells #[.slice q n c3] 37)
  have D5 := grown_heap (World.grownBy_alloc w4 (.cells #[.slice q n c3] 37) none) D4 (by simp)
  have E5 := heap_alloc_new w4 (.cells #[.slice q n c3] 37)
  have B5 := hide (B4.out.alloc (by omega) (.cells #[.slice q n c3] 37))
  have IN5 := hide (fun (hp : Hp) (i : hp.In w4) => i.grown (World.grownBy_alloc w4 (.cells #[.slice q n c3] 37) none) (fun _ e => by cases e))
  clear D2 D4 b4 r4 HG
  rcases hv with ⟨rfl, hn⟩ | ⟨rfl, p, r, hp, hres, hgi, hin, hfr⟩
  · have RES := hide (PN.out hn)
    clear hn ha4 PN PO PM PY
    go_wp2_with fail
    generalize w4.alloc (.cells #[.slice q n c3] 37) = w5 at *
    obtain ⟨dc0, dcf⟩ := cells1_at D5
    obtain ⟨ec0, ecf⟩ := cells1_at E5
    go_region
    all_goals
      go_wp2_with fail
      refine bodyPost_ret (v := .tuple #[.agg #[.slice q n c3], .bool false]) (by simp [results, go_sem, *]) rfl ?_
      exact ⟨⟨_, _, rfl, ⟨_, _, _, rfl⟩, .inl ⟨rfl, RES.out⟩⟩, B5.out.drew.setCell (Nat.le_refl _) _⟩
  · have hd4 := ha4 p r hres
    rw [List.drop_zero] at hres
    have FR := hide hfr
    have GI := hide hgi
    have IN5 := hide (IN5.out hp hin)
    have FN : Hid (hp w.heap.size = none) := hfr.none (by rw [SZ.out]; omega)
    have FF : Hid (hp.From w.heap.size) := hfr.mono (by rw [SZ.out]; omega)
    have PE := hide (fun n => peek_any _ _ _ _ _ _ _ (r5.drewN n))
    clear hgi hin hfr FR
    go_wp2_with fail
    generalize w4.alloc (.cells #[.slice q n c3] 37) = w5 at *
    obtain ⟨dc0, dcf⟩ := cells1_at D5
    obtain ⟨ec0, ecf⟩ := cells1_at E5
    have neE : w4.heap.size ≠ w.heap.size := by omega
    by_cases hl : a4 < l.length
    · rw [head_at hl] at PE
      have RES := hide (PM.out p l[a4] (l.drop (a4 + 1)) (by rw [hres, ← hd4, List.drop_eq_getElem_cons hl]))
      have ne1 : ((l[a4] : Int) == -1) = false := by rw [beq_eq_false_iff_ne]; omega
      clear hd4 ha4 hres PN PO PM PY
      generalize l[a4] = x at *
      go_region_with (go_at_call 25; refine (PE.out 1).mono ?_; rintro e w6 ⟨rfl, m1, rfl⟩)
      all_goals
        go_wp2_with fail
        refine bodyPost_ret (v := .tuple #[.agg #[.slice q n c3], .bool false]) (by simp [results, go_sem, *]) rfl ?_
        exact ⟨⟨_, _, rfl, ⟨_, _, _, rfl⟩, .inl ⟨rfl, RES.out⟩⟩, (belowN B5.out _).setCell (Nat.le_refl _) _⟩
    · rw [head_end hl] at PE
      have PX := hide (PO.out p r hres (by rw [← hd4]; exact List.drop_eq_nil_of_le (by omega)))
      have RES := hide (PY.out p PX.out)
      clear hd4 ha4 hres PN PO PM PY
      go_region_with (go_at_call 25; refine (PE.out 1).mono ?_; rintro e w6 ⟨rfl, m1, rfl⟩)
      all_goals
        go_wp2_with fail
        refine bodyPost_ret (v := .tuple #[.agg #[.slice q n c3], .bool true]) (by simp [results, go_sem, *]) rfl ?_
        refine ⟨⟨_, _, rfl, ⟨_, _, _, rfl⟩, .inr ⟨rfl, RES.out, p, hp, PX.out, GI.out, ?_, FF.out⟩⟩, (belowN B5.out _).setCell (Nat.le_refl _) _⟩
        exact (IN5.out.grown (grown_drewN _ _ none) (fun _ e => by cases e)).grown (grown_set _ _ _) (fun j e => by cases e; exact FN.out)
theorem read_any (s : ByteArray) (w : World) (hT : Tabs w) :
    Calls Tryd.prog 16 #[.string s] w (ReadPost w s.data.toList) := by
  by_cases h1 : s.size ≤ 200
  · cases h2 : validS s with
    | true => exact read_ok s w hT h1 h2
    | false => exact read_bad s w hT (.inr ⟨h1, h2⟩)
  · exact read_bad s w hT (.inl (by omega))
set_option maxHeartbeats 1000000 in
theorem patRight_any (s : ByteArray) (w : World) (_hs : s.size ≤ maxLen) (hT : Tabs w) :
    Calls Tryd.prog 10 #[.string s] w fun e w' => e = .returned (.bool (rightL s.data.toList)) ∧ Below w.heap.size w w' := by
  have HR := hide (read_any s w hT)
  go_enter Tryd.func10, Tryd.ntmps10
  go_wp2_with fail
  refine HR.out.mono ?_
  rintro e w1 ⟨⟨rv, b, rfl, ⟨q, n, c, rfl⟩, hv⟩, b1⟩
  have E : b = rightL s.data.toList := by
    rcases hv with ⟨rfl, e⟩ | ⟨rfl, e, _⟩
    · exact e.symm
    · exact e.symm
  subst E
  clear hv
  go_wp2_with fail
  go_ret
  exact ⟨rfl, b1.alloc b1.size _⟩

end Go.Proofs.YtncljgpcloanfaaDoor
