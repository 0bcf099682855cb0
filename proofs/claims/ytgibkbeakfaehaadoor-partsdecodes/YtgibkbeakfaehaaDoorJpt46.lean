/- The document's find, begins, quoted, Part of layer 20. The document's read of layer 20. -/
import Derived.Test.YtgibkbeakfaehaaDoorJpt21
import Derived.Test.YtgibkbeakfaehaaDoorJpt27
import Derived.Test.YtgibkbeakfaehaaDoorJpt30
import Derived.Test.YtgibkbeakfaehaaDoorJpt33

namespace Go.Proofs.YtgibkbeakfaehaaDoor
open Go.RowKit
set_option maxRecDepth 100000
set_option maxHeartbeats 4000000 in
theorem refBegins_any (s t : ByteArray) (k : Nat) (w : World) (hs : s.size ≤ 1099511627776) (ht : t.size ≤ 1099511627776) (hk : k ≤ s.size) :
    Calls Tryd.prog 47 #[.string s, .int .i64 (k : Int), .string t] w fun e w' => e = .returned (.bool ((bL t).isPrefixOf ((bL s).drop k))) ∧ w' = w := by
  have k0 : (0 : Int) ≤ (k : Int) := by omega
  by_cases g : k + t.size ≤ s.size
  · have d0 : decide ((t.size : Int) ≤ (s.size : Int) - (k : Int)) = true := decide_eq_true (by omega)
    have k2 : (k : Int) + (t.size : Int) ≤ (s.size : Int) := by omega
    have EP := hide (ext_pre s t k g)
    generalize (bL t).isPrefixOf ((bL s).drop k) = R at *
    have q1 : ((s.extract k (k + t.size)).toList == t.toList) = R := EP.out
    clear EP
    go_enter Tryd.func47, Tryd.ntmps47
    go_wp2_with fail
    go_ret
    exact ⟨rfl, rfl⟩
  · have d0 : decide ((t.size : Int) ≤ (s.size : Int) - (k : Int)) = false := decide_eq_false (by omega)
    have E : Hid ((bL t).isPrefixOf ((bL s).drop k) = false) := by
      show _ = _
      cases q : (bL t).isPrefixOf ((bL s).drop k) with
      | false => rfl
      | true =>
        have := (List.isPrefixOf_iff_prefix.1 q).length_le
        rw [List.length_drop, len_bL, len_bL] at this
        omega
    go_enter Tryd.func47, Tryd.ntmps47
    go_wp2_with fail
    go_ret
    exact ⟨ret_bool E.out.symm, rfl⟩
/-- What is in quotes from a place on, and the place behind them. -/
def quoT (l : List UInt8) : ByteArray := match quoL l with
  | some p => txt (unL p.1)
  | none => ⟨#[]⟩
def quoI (l : List UInt8) (k : Nat) : Int := match quoL l with
  | some p => ((k + p.1.length + 1 : Nat) : Int)
  | none => -1
theorem quo_bad {c : UInt8} {r : List UInt8} (h : c = 10 ∨ c = 13) : quoL (c :: r) = none := if_pos h
theorem quo_end {c : UInt8} {r : List UInt8} (h : c = 34) : quoL (c :: r) = some ([], r) := by subst h; rfl
theorem quo_go {c : UInt8} {r : List UInt8} (h1 : ¬ (c = 10 ∨ c = 13)) (h2 : ¬ c = 34) : quoL (c :: r) = (quoL r).map fun p => (c :: p.1, p.2) := by
  show (if c = 10 ∨ c = 13 then none else if c = 34 then some ([], r) else (quoL r).map fun p => (c :: p.1, p.2)) = _
  rw [if_neg h1, if_neg h2]
/-- The way through a text in quotes. -/
def QuAt (L : List UInt8) (k j : Nat) : Prop := quoL (L.drop k) = (quoL (L.drop j)).map fun p => ((L.drop k).take (j - k) ++ p.1, p.2)
theorem qu_start (L : List UInt8) (k : Nat) : QuAt L k k := by
  unfold QuAt
  rw [Nat.sub_self]
  cases quoL (L.drop k) <;> simp
theorem qu_next {s : ByteArray} {k j : Nat} (hk : k ≤ j) (h : QuAt (bL s) k j) (g : j < s.size) (h1 : ¬ (s[j] = 10 ∨ s[j] = 13)) (h2 : ¬ s[j] = 34) : QuAt (bL s) k (j + 1) := by
  unfold QuAt at h ⊢
  rw [h]
  have D : (bL s).drop j = s[j] :: (bL s).drop (j + 1) := drop1 s j g
  rw [D, quo_go h1 h2]
  have e : ((bL s).drop k).take (j + 1 - k) = ((bL s).drop k).take (j - k) ++ [s[j]] := by
    have hl : j - k < ((bL s).drop k).length := by rw [List.length_drop, len_bL]; omega
    rw [show j + 1 - k = (j - k) + 1 by omega, List.take_succ_eq_append_getElem hl]
    congr 2
    rw [List.getElem_drop]
    have : (bL s)[k + (j - k)]'(by rw [len_bL]; omega) = (bL s)[j]'(by rw [len_bL]; exact g) := by congr 1; omega
    rw [this]; exact at_bL g
  rw [e]
  cases quoL ((bL s).drop (j + 1)) <;> simp
theorem ret_quo {a b : ByteArray} {c d : Int} (h : a = b) (g : c = d) : Ending.returned (.tuple #[.string a, .int .i64 c]) = .returned (.tuple #[.string b, .int .i64 d]) := by rw [h, g]
theorem ext_txt (s : ByteArray) (k j : Nat) : s.extract k j = txt (((bL s).drop k).take (j - k)) := by
  apply ByteArray.ext
  show _ = (((bL s).drop k).take (j - k)).toArray
  apply Array.ext'
  simp only [ByteArray.data_extract, Array.toList_extract]
set_option maxHeartbeats 4000000 in
theorem refQuoted_any (s : ByteArray) (k : Nat) (w : World) (hs : s.size ≤ 1099511627776) (hk : k ≤ s.size) :
    Calls Tryd.prog 62 #[.string s, .int .i64 (k : Int)] w fun e w' => e = .returned (.tuple #[.string (quoT ((bL s).drop k)), .int .i64 (quoI ((bL s).drop k) k)]) ∧ Below w.heap.size w w' := by
  have kz : (0 : Int) ≤ (k : Int) := by omega
  obtain ⟨T, hT⟩ : ∃ T, Hid (quoT ((bL s).drop k) = T) := ⟨_, show _ = _ from rfl⟩
  obtain ⟨J, hJ⟩ : ∃ J, Hid (quoI ((bL s).drop k) k = J) := ⟨_, show _ = _ from rfl⟩
  rw [hT.out, hJ.out]
  have NONE : Hid (quoL ((bL s).drop k) = none → T = ⟨#[]⟩ ∧ J = -1) := fun h => by
    rw [← hT.out, ← hJ.out]; unfold quoT quoI; rw [h]; exact ⟨rfl, rfl⟩
  have SOME : Hid (∀ n r, quoL ((bL s).drop k) = some (n, r) → T = txt (unL n) ∧ J = ((k + n.length + 1 : Nat) : Int)) := fun n r h => by
    rw [← hT.out, ← hJ.out]; unfold quoT quoI; rw [h]; exact ⟨rfl, rfl⟩
  clear hT hJ
  go_enter Tryd.func62, Tryd.ntmps62
  go_wp2_with fail
  go_loop [6] (fun iv => ∃ j : Nat, k ≤ j ∧ j ≤ s.size ∧ iv = .int .i64 j ∧ Hid (QuAt (bL s) k j)) (fun iv => s.size + 1 - (intOf iv).toNat)
  case atStart => exact ⟨k, Nat.le_refl _, hk, rfl, qu_start _ _⟩
  case round =>
    obtain ⟨j, kj, hj, rfl, HQ⟩ := hrel
    have j0 : (0 : Int) ≤ (j : Int) := by omega
    by_cases g : j < s.size
    · have j1 : (j : Int) < (s.size : Int) := by omega
      have D : Hid ((bL s).drop j = s[j] :: (bL s).drop (j + 1)) := drop1 s j g
      by_cases a : (s[j].toNat : Int) = 10
      · have q0 : ((s[j].toNat : Int) != 10) = false := by rw [a]; rfl
        have hc : s[j] = 10 := byte_is (n := 10) (by omega) a
        obtain ⟨r1, r2⟩ := NONE.out (by
          have h := HQ.out
          unfold QuAt at h
          rw [h, D.out, quo_bad (.inl hc)]; rfl)
        have R1 := hide r1
        have R2 := hide r2
        clear NONE SOME HQ D a hc r1 r2
        go_wp2_with fail
        go_ret2
        exact ⟨ret_quo R1.out.symm R2.out.symm, Below.refl _ _⟩
      · have q0 : ((s[j].toNat : Int) != 10) = true := bne_iff_ne.2 a
        by_cases b : (s[j].toNat : Int) = 13
        · have q1 : ((s[j].toNat : Int) != 13) = false := by rw [b]; rfl
          have hc : s[j] = 13 := byte_is (n := 13) (by omega) b
          obtain ⟨r1, r2⟩ := NONE.out (by
            have h := HQ.out
            unfold QuAt at h
            rw [h, D.out, quo_bad (.inr hc)]; rfl)
          have R1 := hide r1
          have R2 := hide r2
          clear NONE SOME HQ D a b hc r1 r2
          go_wp2_with fail
          go_ret2
          exact ⟨ret_quo R1.out.symm R2.out.symm, Below.refl _ _⟩
        · have q1 : ((s[j].toNat : Int) != 13) = true := bne_iff_ne.2 b
          have n1 : ¬ (s[j] = 10 ∨ s[j] = 13) := by
            rintro (t | t)
            · exact a (by rw [t]; rfl)
            · exact b (by rw [t]; rfl)
          by_cases c : (s[j].toNat : Int) = 34
          · have q2 : ((s[j].toNat : Int) == 34) = true := by rw [c]; rfl
            have hc : s[j] = 34 := byte_is (n := 34) (by omega) c
            obtain ⟨r1, r2⟩ := SOME.out (((bL s).drop k).take (j - k)) ((bL s).drop (j + 1)) (by
              have h := HQ.out
              unfold QuAt at h
              rw [h, D.out, quo_end hc]
              simp)
            have R1 : Hid (txt (unL (bL (s.extract k j))) = T) := by
              show _ = _
              rw [r1, ext_txt]
              rfl
            have R2 : Hid (J = (j : Int) + 1) := by
              show _ = _
              rw [r2, List.length_take, List.length_drop, len_bL]
              omega
            have HU := hide (fun W => refUnname_any (s.extract k j) W (by simp; omega))
            rw [R1.out] at HU
            have kj1 : (k : Int) ≤ (j : Int) := by omega
            have jz : (j : Int) ≤ (s.size : Int) := by omega
            clear NONE SOME HQ D a b c hc r1 r2 n1 R1
            go_wp2_with fail
            refine (HU.out _).mono ?_
            rintro e w1 ⟨rfl, b1⟩
            go_wp2_with fail
            go_ret2
            exact ⟨ret_quo rfl R2.out.symm, b1⟩
          · have q2 : ((s[j].toNat : Int) == 34) = false := beq_eq_false_iff_ne.2 c
            have HN := hide (qu_next kj HQ.out g n1 (fun t => c (by rw [t]; rfl)))
            clear NONE SOME HQ D a b c n1
            go_wp2_with fail
            go_round
            case rel => exact ⟨j + 1, by omega, by omega, by go_num, HN⟩
            case measure => simp [intOf]; omega
    · obtain rfl : j = s.size := by omega
      obtain ⟨r1, r2⟩ := NONE.out (by
        have h := HQ.out
        unfold QuAt at h
        rw [h, List.drop_of_length_le (l := bL s) (i := s.size) (by rw [len_bL]; omega)]; rfl)
      have R1 := hide r1
      have R2 := hide r2
      clear NONE SOME HQ r1 r2
      go_wp2_with fail
      go_ret2
      exact ⟨ret_quo R1.out.symm R2.out.symm, Below.refl _ _⟩
end Go.Proofs.YtgibkbeakfaehaaDoor

namespace Go.Proofs.YtgibkbeakfaehaaDoor
open Go.RowKit
set_option maxRecDepth 100000
theorem quo_spec : ∀ {l n r : List UInt8}, quoL l = some (n, r) → l = n ++ 34 :: r
  | [], n, r, h => by cases h
  | c :: l, n, r, h => by
    by_cases h1 : c = 10 ∨ c = 13
    · rw [quo_bad h1] at h; cases h
    · by_cases h2 : c = 34
      · rw [quo_end h2] at h; cases h; rw [h2]; rfl
      · rw [quo_go h1 h2] at h
        cases g : quoL l with
        | none => rw [g] at h; cases h
        | some p =>
          rw [g] at h
          cases h
          have := quo_spec (n := p.1) (r := p.2) g
          show c :: l = c :: p.1 ++ 34 :: p.2
          rw [this]; rfl
theorem cut_one {x : UInt8} : ∀ {l : List UInt8}, (cutL [x] l).isNone = !l.any (· == x)
  | [] => by rw [cut_end (by simp)]; rfl
  | c :: l => by
    by_cases h : x = c
    · have : [x].isPrefixOf (c :: l) = true := by rw [h]; simp
      rw [cut_hit this]
      have h2 : (c == x) = true := by rw [h]; simp
      show false = !((c == x) || _)
      rw [h2]; rfl
    · have : [x].isPrefixOf (c :: l) = false := by
        have q : (x == c) = false := beq_eq_false_iff_ne.2 h
        show (x == c && _) = false
        rw [q]; rfl
      have h2 : (c == x) = false := beq_eq_false_iff_ne.2 (fun t => h t.symm)
      rw [cut_miss this]
      have ih := cut_one (x := x) (l := l)
      show _ = !((c == x) || l.any (· == x))
      rw [h2, Bool.false_or, ← ih]
      cases cutL [x] l <;> rfl
theorem fnd_neg {t l : List UInt8} {k : Nat} : decide (fndI t l k < 0) = (cutL t l).isNone := by
  unfold fndI
  cases cutL t l with
  | none => rfl
  | some p => exact decide_eq_false (by show ¬ ((k + p.1.length : Nat) : Int) < 0; omega)
theorem brk_is (l : List UInt8) : (!brk l) = ((cutL [13] l).isNone && (cutL [10] l).isNone) := by
  rw [cut_one, cut_one]
  unfold brk
  induction l with
  | nil => rfl
  | cons c l ih =>
    simp only [List.any_cons]
    cases (c == 13) <;> cases (c == 10) <;> simp_all
theorem Bk.drewB {w : World} {n : Nat} {cs : List Value} {t : TypeId} (h : Bk w n cs t) : Bk w.drew n cs t := ⟨h.lies⟩
theorem belD {B : Nat} {a w : World} (h : Below B a w) : Below B a w.drew := ⟨h.os, h.tape, h.output, h.size, h.block⟩
def enV (e : En) : Value := .agg #[.string e.name, .string e.val, .bool e.file, .string e.fname, .string e.typ]
/-- The ways of a part that is read. -/
theorem read_no {s : List UInt8} (h : cutL c4L s = none) : readL s = none := by unfold readL; rw [h]
theorem read_begin {s h v : List UInt8} (g : cutL c4L s = some (h, v)) (q : c1L.isPrefixOf h = false) : readL s = none := by
  unfold readL; rw [g]; show (if c1L.isPrefixOf h = true then _ else none) = none; rw [q]; rfl
theorem read_quote {s h v : List UInt8} (g : cutL c4L s = some (h, v)) (q : c1L.isPrefixOf h = true) (n : quoL (h.drop 38) = none) : readL s = none := by
  unfold readL; rw [g]; show (if c1L.isPrefixOf h = true then (match quoL (h.drop 38) with | none => none | some (n, r) => readH n r v) else none) = none; rw [q, n]; rfl
theorem read_name {s h v n r : List UInt8} (g : cutL c4L s = some (h, v)) (q : c1L.isPrefixOf h = true) (e : quoL (h.drop 38) = some (n, r)) : readL s = readH n r v := by
  unfold readL; rw [g]; show (if c1L.isPrefixOf h = true then (match quoL (h.drop 38) with | none => none | some (n, r) => readH n r v) else none) = _; rw [q, e]; rfl
theorem readH_nil (n v : List UInt8) : readH n [] v = some ⟨txt (unL n), txt v, false, ⟨#[]⟩, ⟨#[]⟩⟩ := by unfold readH; rw [if_pos rfl]
theorem readH_no {n r v : List UInt8} (h : r ≠ []) (q : c2L.isPrefixOf r = false) : readH n r v = none := by unfold readH; rw [if_neg h, if_neg (by rw [q]; decide)]
theorem readH_quote {n r v : List UInt8} (h : r ≠ []) (q : c2L.isPrefixOf r = true) (g : quoL (r.drop 12) = none) : readH n r v = none := by unfold readH; rw [if_neg h, if_pos q, g]
theorem readH_third {n r v f r2 : List UInt8} (h : r ≠ []) (q : c2L.isPrefixOf r = true) (g : quoL (r.drop 12) = some (f, r2)) (t : c3L.isPrefixOf r2 = false) : readH n r v = none := by
  unfold readH; rw [if_neg h, if_pos q, g]; show (if c3L.isPrefixOf r2 = true ∧ brk (r2.drop 16) = false then _ else none) = none; rw [if_neg (by rw [t]; simp)]
theorem readH_file {n r v f r2 : List UInt8} (h : r ≠ []) (q : c2L.isPrefixOf r = true) (g : quoL (r.drop 12) = some (f, r2)) (t : c3L.isPrefixOf r2 = true) : readH n r v = if brk (r2.drop 16) = false then some ⟨txt (unL n), txt v, true, txt (unL f), txt (r2.drop 16)⟩ else none := by
  unfold readH; rw [if_neg h, if_pos q, g]
  show (if c3L.isPrefixOf r2 = true ∧ brk (r2.drop 16) = false then _ else none) = _
  by_cases b : brk (r2.drop 16) = false
  · rw [if_pos ⟨t, b⟩, if_pos b]
  · rw [if_neg (fun z => b z.2), if_neg b]
theorem quoT_some {l n r : List UInt8} (h : quoL l = some (n, r)) : quoT l = txt (unL n) := by unfold quoT; rw [h]
theorem quoI_some {l n r : List UInt8} {k : Nat} (h : quoL l = some (n, r)) : quoI l k = ((k + n.length + 1 : Nat) : Int) := by unfold quoI; rw [h]
theorem quo_none {l : List UInt8} {k : Nat} (h : quoL l = none) : quoT l = ⟨#[]⟩ ∧ quoI l k = -1 := by unfold quoT quoI; rw [h]; exact ⟨rfl, rfl⟩

end Go.Proofs.YtgibkbeakfaehaaDoor
