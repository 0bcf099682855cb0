/- The document's Add of layer 10: it answers by 'addP', or by its error. Conditions: a document as it lies in the world; rows of at most 2^47 bytes. -/
import Derived.Test.YtmpkbdmkkjcjhaaDocAdd
import Derived.Test.YtmpkbdmkkjcjhaaDocC1
namespace Go.Proofs.Ytmpkbdmkkjcjhaa
open Go.RowKit

set_option maxHeartbeats 2000000 in
theorem refAdd_wrong (v : Value) (l : List Nd) (name text : ByteArray) (w : World) (hv : NodesV w v l) (hz : DocSz l) (_hs : name.size ≤ maxLen) (hR : rightB l = false) :
    Calls Try.prog 14 #[v, .string name, .string text] w fun e w' => e = .returned (.tuple #[.slice none 0 0, .int .i64 0, .int .i64 4]) ∧ Below w.heap.size w w' := by
  have HR := hide (refDocRight_any v l w hv hz)
  rw [hR] at HR
  clear hv hz
  go_enter Try.func14, Try.ntmps14
  go_wp2_with fail
  refine HR.out.mono ?_
  rintro e w0 ⟨rfl, b0⟩
  go_wp2_with fail
  go_ret3
  exact ⟨rfl, b0⟩

set_option maxHeartbeats 2000000 in
theorem refAdd_name (v : Value) (l : List Nd) (name text : ByteArray) (w : World) (hv : NodesV w v l) (hz : DocSz l) (hs : name.size ≤ maxLen) (hR : Right l) (h1 : noName name = false) (h2 : nameOk name = false) :
    Calls Try.prog 14 #[v, .string name, .string text] w fun e w' => e = .returned (.tuple #[.slice none 0 0, .int .i64 0, .int .i64 7]) ∧ Below w.heap.size w w' := by
  have HR := hide (refDocRight_any v l w hv hz)
  rw [right_is.2 hR] at HR
  have HN := hide (fun W => refName_any name W hs)
  rw [h2] at HN
  have e1 := noName_false h1
  have e4 : (name.toList == []) = false := by rw [beq_eq_false_iff_ne]; exact e1
  have e5 : name.toList.isEmpty = false := by cases h : name.toList with
    | nil => exact absurd h e1
    | cons => rfl
  have e6 := noName_size' h1
  have e7 : (0 : Int) < (name.size : Int) := by omega
  clear hv hz hs hR h1 h2
  go_enter Try.func14, Try.ntmps14
  go_wp2_with fail
  refine HR.out.mono ?_
  rintro e w0 ⟨rfl, b0⟩
  go_wp2_with fail
  refine (HN.out _).mono ?_
  rintro e w1 ⟨rfl, hw⟩
  obtain rfl : w0 = w1 := hw.symm
  go_wp2_with fail
  go_ret3
  exact ⟨rfl, b0⟩

set_option maxHeartbeats 2000000 in
theorem refAdd_range_t (v : Value) (l : List Nd) (name text : ByteArray) (w : World) (hv : NodesV w v l) (hz : DocSz l) (hs : name.size ≤ maxLen) (hR : Right l) (ht : 4000 < text.size) (h1 : noName name = true) :
    Calls Try.prog 14 #[v, .string name, .string text] w fun e w' => e = .returned (.tuple #[.slice none 0 0, .int .i64 0, .int .i64 2]) ∧ Below w.heap.size w w' := by
  have HR := hide (refDocRight_any v l w hv hz)
  rw [right_is.2 hR] at HR
  have HN := hide (fun W => refName_any name W hs)
  have e1 := noName_nil h1
  have e4 : (name.toList == []) = true := by rw [e1]; rfl
  have e6 := noName_size h1
  have e7 : ¬ (0 : Int) < (name.size : Int) := by omega
  have t1 : (4000 : Int) < (text.size : Int) := by omega
  clear hv hz hs hR
  go_enter Try.func14, Try.ntmps14
  go_wp2_with fail
  refine HR.out.mono ?_
  rintro e w0 ⟨rfl, b0⟩
  go_wp2_with fail
  go_ret3
  exact ⟨rfl, b0⟩

set_option maxHeartbeats 2000000 in
theorem refAdd_range_u (v : Value) (l : List Nd) (name text : ByteArray) (w : World) (hv : NodesV w v l) (hz : DocSz l) (hs : name.size ≤ maxLen) (hR : Right l) (ht : 4000 < text.size) (h1 : noName name = false) (h2 : nameOk name = true) :
    Calls Try.prog 14 #[v, .string name, .string text] w fun e w' => e = .returned (.tuple #[.slice none 0 0, .int .i64 0, .int .i64 2]) ∧ Below w.heap.size w w' := by
  have HR := hide (refDocRight_any v l w hv hz)
  rw [right_is.2 hR] at HR
  have HN := hide (fun W => refName_any name W hs)
  rw [h2] at HN
  have e1 := noName_false h1
  have e4 : (name.toList == []) = false := by rw [beq_eq_false_iff_ne]; exact e1
  have e5 : name.toList.isEmpty = false := by cases h : name.toList with
    | nil => exact absurd h e1
    | cons => rfl
  have e6 := noName_size' h1
  have e7 : (0 : Int) < (name.size : Int) := by omega
  have t1 : (4000 : Int) < (text.size : Int) := by omega
  clear hv hz hs hR
  go_enter Try.func14, Try.ntmps14
  go_wp2_with fail
  refine HR.out.mono ?_
  rintro e w0 ⟨rfl, b0⟩
  go_wp2_with fail
  refine (HN.out _).mono ?_
  rintro e w1 ⟨rfl, hw⟩
  obtain rfl : w0 = w1 := hw.symm
  go_wp2_with fail
  go_ret3
  exact ⟨rfl, b0⟩

set_option maxHeartbeats 2000000 in
theorem refAdd_range_b (v : Value) (l : List Nd) (name text : ByteArray) (w : World) (hv : NodesV w v l) (hz : DocSz l) (hs : name.size ≤ maxLen) (hR : Right l) (ht : text.size ≤ 4000) (h1 : noName name = false) (h2 : nameOk name = true) (h3 : noName text = false) :
    Calls Try.prog 14 #[v, .string name, .string text] w fun e w' => e = .returned (.tuple #[.slice none 0 0, .int .i64 0, .int .i64 2]) ∧ Below w.heap.size w w' := by
  have HR := hide (refDocRight_any v l w hv hz)
  rw [right_is.2 hR] at HR
  have HN := hide (fun W => refName_any name W hs)
  rw [h2] at HN
  have e1 := noName_false h1
  have e4 : (name.toList == []) = false := by rw [beq_eq_false_iff_ne]; exact e1
  have e5 : name.toList.isEmpty = false := by cases h : name.toList with
    | nil => exact absurd h e1
    | cons => rfl
  have e6 := noName_size' h1
  have e7 : (0 : Int) < (name.size : Int) := by omega
  have t1 : ¬ (4000 : Int) < (text.size : Int) := by omega
  have f1 := noName_false h3
  have f4 : (text.toList == []) = false := by rw [beq_eq_false_iff_ne]; exact f1
  have f5 : text.toList.isEmpty = false := by cases h : text.toList with
    | nil => exact absurd h f1
    | cons => rfl
  have f6 := noName_size' h3
  have f7 : (0 : Int) < (text.size : Int) := by omega
  clear hv hz hs hR
  go_enter Try.func14, Try.ntmps14
  go_wp2_with fail
  refine HR.out.mono ?_
  rintro e w0 ⟨rfl, b0⟩
  go_wp2_with fail
  refine (HN.out _).mono ?_
  rintro e w1 ⟨rfl, hw⟩
  obtain rfl : w0 = w1 := hw.symm
  go_wp2_with fail
  go_ret3
  exact ⟨rfl, b0⟩

set_option maxHeartbeats 2000000 in
theorem refAdd_full_t (v : Value) (l : List Nd) (name text : ByteArray) (w : World) (hv : NodesV w v l) (hz : DocSz l) (hs : name.size ≤ maxLen) (hR : Right l) (hl : 400 ≤ l.length) (h1 : noName name = true) (ht : text.size ≤ 4000) :
    Calls Try.prog 14 #[v, .string name, .string text] w fun e w' => e = .returned (.tuple #[.slice none 0 0, .int .i64 0, .int .i64 6]) ∧ Below w.heap.size w w' := by
  have HR := hide (refDocRight_any v l w hv hz)
  rw [right_is.2 hR] at HR
  have HN := hide (fun W => refName_any name W hs)
  have e1 := noName_nil h1
  have e4 : (name.toList == []) = true := by rw [e1]; rfl
  have e6 := noName_size h1
  have e7 : ¬ (0 : Int) < (name.size : Int) := by omega
  have t1 : ¬ (4000 : Int) < (text.size : Int) := by omega
  have i4 : (400 : Int) ≤ (l.length : Int) := by omega
  obtain ⟨pp, cc, rfl, _⟩ := hv
  clear hz hs hR
  go_enter Try.func14, Try.ntmps14
  go_wp2_with fail
  refine HR.out.mono ?_
  rintro e w0 ⟨rfl, b0⟩
  go_wp2_with fail
  go_ret3
  exact ⟨rfl, b0⟩

set_option maxHeartbeats 2000000 in
theorem refAdd_full_b (v : Value) (l : List Nd) (name text : ByteArray) (w : World) (hv : NodesV w v l) (hz : DocSz l) (hs : name.size ≤ maxLen) (hR : Right l) (hl : 400 ≤ l.length) (h1 : noName name = false) (h2 : nameOk name = true) (h3 : noName text = true) :
    Calls Try.prog 14 #[v, .string name, .string text] w fun e w' => e = .returned (.tuple #[.slice none 0 0, .int .i64 0, .int .i64 6]) ∧ Below w.heap.size w w' := by
  have HR := hide (refDocRight_any v l w hv hz)
  rw [right_is.2 hR] at HR
  have HN := hide (fun W => refName_any name W hs)
  rw [h2] at HN
  have e1 := noName_false h1
  have e4 : (name.toList == []) = false := by rw [beq_eq_false_iff_ne]; exact e1
  have e5 : name.toList.isEmpty = false := by cases h : name.toList with
    | nil => exact absurd h e1
    | cons => rfl
  have e6 := noName_size' h1
  have e7 : (0 : Int) < (name.size : Int) := by omega
  have f1 := noName_nil h3
  have f4 : (text.toList == []) = true := by rw [f1]; rfl
  have f6 := noName_size h3
  have f7 : ¬ (0 : Int) < (text.size : Int) := by omega
  have t1 : ¬ (4000 : Int) < (text.size : Int) := by omega
  have i4 : (400 : Int) ≤ (l.length : Int) := by omega
  obtain ⟨pp, cc, rfl, _⟩ := hv
  clear hz hs hR
  go_enter Try.func14, Try.ntmps14
  go_wp2_with fail
  refine HR.out.mono ?_
  rintro e w0 ⟨rfl, b0⟩
  go_wp2_with fail
  refine (HN.out _).mono ?_
  rintro e w1 ⟨rfl, hw⟩
  obtain rfl : w0 = w1 := hw.symm
  go_wp2_with fail
  go_ret3
  exact ⟨rfl, b0⟩

set_option maxHeartbeats 4000000 in
set_option maxRecDepth 100000 in
theorem refAdd_ok (v : Value) (l : List Nd) (name text : ByteArray) (w : World) (hv : NodesV w v l) (hz : DocSz l) (hs : name.size ≤ maxLen) (hR : Right l) (hl : l.length < 400) (ha : AddOk name text) :
    Calls Try.prog 14 #[v, .string name, .string text] w fun e w' => ∃ v', e = .returned (.tuple #[v', .int .i64 l.length, .int .i64 0]) ∧ NodesV w' v' (addP l name text) ∧ Below w.heap.size w w' := by
  have HR := hide (refDocRight_any v l w hv hz)
  rw [right_is.2 hR] at HR
  have HC := hide (fun W (hb : Below w.heap.size w W) => refCopied_any v l W (hv.below hb) hz)
  have HN := hide (fun W => refName_any name W hs)
  obtain ⟨pp, cc, rfl, _⟩ := hv
  have LL : Hid (∀ L : List NdV, ndsOf L = l → L.length < 400) := fun L h => by rw [← ndsOf_len, h]; exact hl
  have i4 : ¬ (400 : Int) ≤ (l.length : Int) := by omega
  obtain ⟨iN, hN0, hN1, hN2, hN3⟩ := info_parts infoN
  have SPL : (name.size = 0 ∧ text.size ≤ 4000) ∨ (0 < name.size ∧ nameOk name = true ∧ text.size = 0) := by
    rcases ha with ⟨h1, h2⟩ | ⟨h0, h1, h2⟩
    · exact .inl ⟨noName_size h1, h2⟩
    · exact .inr ⟨noName_size' h0, h1, noName_size h2⟩
  clear hR hz ha hs
  rcases SPL with ⟨e1, e2⟩ | ⟨e1, e2, e3⟩
  · have e7 : ¬ (0 : Int) < (name.size : Int) := by omega
    have t1 : ¬ (4000 : Int) < (text.size : Int) := by omega
    go_enter Try.func14, Try.ntmps14
    go_wp2_with fail
    refine HR.out.mono ?_
    rintro e w0 ⟨rfl, b0⟩
    go_wp2_with fail
    refine (HC.out _ b0).mono ?_
    rintro e w5 ⟨v5, L, rfl, o5, l5, b5⟩
    have ll := LL.out L l5
    have B5 := hide (chain b0 b5)
    have O5 := hide (OwnD.mono o5 b0.size)
    have OW := hide (owns_kept O5.out.row (Chg.alloc w5 (.cells #[.string name, .string text, .slice none 0 0, .int .i64 (-1), .slice none 0 0] 45)) (fun _ _ q => by cases q))
    have R6 := hide ((NB.new w5 [.string name, .string text, .slice none 0 0, .int .i64 (-1), .slice none 0 0] 45).raw 1 5 rfl 1)
    have W6 : Hid (w.heap.size ≤ (w5.alloc (.cells #[.string name, .string text, .slice none 0 0, .int .i64 (-1), .slice none 0 0] 45)).heap.size) := by show _ ≤ _; have := B5.out.size; simp; omega
    have L5 := hide l5
    clear HR HC HN b0 o5 l5 b5
    go_wp2_with (at_builtin; refine wpList_append_raw rfl _ _ _ rfl w.heap.size 45 iN _ 5 88 Try.underlying22 hN0 hN1 hN2 hN3 rfl (by omega) _ L.length (cellsV L) rfl OW.out _ 1 _ rfl R6.out (by simp [Value.oneCell']) (by unfold maxLen; omega) (by omega) W6.out ?_; intro q6 c6 w6 own6 gr6 at6)
    go_ret3
    have C6 : Chg v5.ownBlock.toList w5 w6 := (Chg.alloc _ _).nil.trans (Chg.of_grown gr6)
    refine ⟨Value.slice q6 (L.length + 1) c6, rfl, pushed O5.out L5.out (Chg.refl _ _) C6 own6 ?_, B5.out.trans (C6.below B5.out.size (fun k q => (O5.out.row.lt k (opt_mem.1 q)).1))⟩
    rcases at6 with t | t
    · exact .inl t
    · exact .inr (fun k hk => by rw [t] at hk; cases hk; simp)
  · have e7 : (0 : Int) < (name.size : Int) := by omega
    have t1 : ¬ (4000 : Int) < (text.size : Int) := by omega
    have f7 : ¬ (0 : Int) < (text.size : Int) := by omega
    rw [e2] at HN
    go_enter Try.func14, Try.ntmps14
    go_wp2_with fail
    refine HR.out.mono ?_
    rintro e w0 ⟨rfl, b0⟩
    go_wp2_with fail
    refine (HN.out _).mono ?_
    rintro e w1 ⟨rfl, hw⟩
    obtain rfl : w0 = w1 := hw.symm
    go_wp2_with fail
    refine (HC.out _ b0).mono ?_
    rintro e w5 ⟨v5, L, rfl, o5, l5, b5⟩
    have ll := LL.out L l5
    have B5 := hide (chain b0 b5)
    have O5 := hide (OwnD.mono o5 b0.size)
    have OW := hide (owns_kept O5.out.row (Chg.alloc w5 (.cells #[.string name, .string text, .slice none 0 0, .int .i64 (-1), .slice none 0 0] 45)) (fun _ _ q => by cases q))
    have R6 := hide ((NB.new w5 [.string name, .string text, .slice none 0 0, .int .i64 (-1), .slice none 0 0] 45).raw 1 5 rfl 1)
    have W6 : Hid (w.heap.size ≤ (w5.alloc (.cells #[.string name, .string text, .slice none 0 0, .int .i64 (-1), .slice none 0 0] 45)).heap.size) := by show _ ≤ _; have := B5.out.size; simp; omega
    have L5 := hide l5
    clear HR HC HN b0 o5 l5 b5
    go_wp2_with (at_builtin; refine wpList_append_raw rfl _ _ _ rfl w.heap.size 45 iN _ 5 88 Try.underlying22 hN0 hN1 hN2 hN3 rfl (by omega) _ L.length (cellsV L) rfl OW.out _ 1 _ rfl R6.out (by simp [Value.oneCell']) (by unfold maxLen; omega) (by omega) W6.out ?_; intro q6 c6 w6 own6 gr6 at6)
    go_ret3
    have C6 : Chg v5.ownBlock.toList w5 w6 := (Chg.alloc _ _).nil.trans (Chg.of_grown gr6)
    refine ⟨Value.slice q6 (L.length + 1) c6, rfl, pushed O5.out L5.out (Chg.refl _ _) C6 own6 ?_, B5.out.trans (C6.below B5.out.size (fun k q => (O5.out.row.lt k (opt_mem.1 q)).1))⟩
    rcases at6 with t | t
    · exact .inl t
    · exact .inr (fun k hk => by rw [t] at hk; cases hk; simp)

end Go.Proofs.Ytmpkbdmkkjcjhaa
