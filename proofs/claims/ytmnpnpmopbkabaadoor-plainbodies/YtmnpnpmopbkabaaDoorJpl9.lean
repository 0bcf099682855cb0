/- Texts searched, cut, split and replaced, in the words of parts. What strings.Contains, Cut, Split, CutPrefix, CutSuffix, ReplaceAll answer. The document's find, begins, quoted, Part of layer 20. The program's Fit, toldType, breaks, carried, quote, unquote of layer 20. The tables that layer 21's road names. The program's Encode, Split of layer 21. -/
import Derived.Test.YtmnpnpmopbkabaaDoorJpl8
import Derived.Lib.IndexAny
import Derived.Lib.CutLaws
import Derived.Shelf.Strings.Split
import Derived.Shelf.Strings.PiecesUse
import Derived.Shelf.Strings.Search3
import Derived.Shelf.Small.Wraps
import Derived.Shelf.Strings.Cut
import Derived.Deep.RegionHeld3
import Derived.Laws.Concat
import Derived.Shelf.Strconv.Clone

namespace Go.Proofs.YtmnpnpmopbkabaaDoor
open Go.RowKit
/-- Where a text stands first, as the library's index tells it. -/
theorem ix_cons (c : UInt8) (l t : List UInt8) (h : t.isPrefixOf (c :: l) = false) : Lib.index (c :: l) t = if Lib.index l t == -1 then -1 else Lib.index l t + 1 := by
  conv => lhs; unfold Lib.index
  rw [h]; simp
theorem ix_hit {l t : List UInt8} (h : t.isPrefixOf l = true) : Lib.index l t = 0 :=
  Lib.index_first (i := 0) (Nat.zero_le _) (by simpa [Lib.occAt] using h) (fun _ h => absurd h (Nat.not_lt_zero _))
theorem ix_cut (t : List UInt8) (ht : t ≠ []) : ∀ l : List UInt8, (cutL t l = none ∧ Lib.index l t = -1) ∨ ∃ p r, cutL t l = some (p, r) ∧ Lib.index l t = (p.length : Int) ∧ l = p ++ t ++ r
  | [] => .inl ⟨cut_end ht, by
      refine Lib.index_none (fun j _ => ?_)
      cases t with
      | nil => exact absurd rfl ht
      | cons => simp [Lib.occAt]⟩
  | c :: l => by
    cases h : t.isPrefixOf (c :: l) with
    | true =>
      refine .inr ⟨[], (c :: l).drop t.length, cut_hit h, ix_hit h, ?_⟩
      obtain ⟨z, hz⟩ := List.isPrefixOf_iff_prefix.1 h
      rw [← hz]; simp
    | false =>
      rcases ix_cut t ht l with ⟨h1, h2⟩ | ⟨p, r, h1, h2, h3⟩
      · refine .inl ⟨by rw [cut_miss h, h1]; rfl, by rw [ix_cons _ _ _ h, h2]; rfl⟩
      · refine .inr ⟨c :: p, r, by rw [cut_miss h, h1]; rfl, ?_, by rw [h3]; simp⟩
        rw [ix_cons _ _ _ h, h2]
        have : ((p.length : Int) == -1) = false := by rw [beq_eq_false_iff_ne]; omega
        rw [this]
        show (p.length : Int) + 1 = ((c :: p).length : Int)
        simp
theorem has_cut (t : List UInt8) (ht : t ≠ []) (l : List UInt8) : Lib.contains l t = (cutL t l).isSome := by
  unfold Lib.contains
  rcases ix_cut t ht l with ⟨h1, h2⟩ | ⟨p, r, h1, h2, _⟩
  · rw [h1, h2]; rfl
  · rw [h1, h2]; simp
theorem fit_pos {b : List UInt8} (h : fitL b = true) : 0 < b.length ∧ b.length ≤ 70 := by
  unfold fitL at h
  rw [Bool.and_eq_true] at h
  exact of_decide_eq_true h.2
/-- Names told and read, sign by sign. -/
theorem rep_map (c : UInt8) (new : List UInt8) : ∀ l : List UInt8, repA [c] new l = l.flatMap fun x => if x = c then new else [x]
  | [] => repA_nil (by simp)
  | x :: l => by
    have ih := rep_map c new l
    rw [List.flatMap_cons]
    by_cases h : x = c
    · subst h
      rw [if_pos rfl, show x :: l = [x] ++ l from rfl, repA_hit (by simp), ih]
    · have : [c].isPrefixOf (x :: l) = false := by
        have : (c == x) = false := by rw [beq_eq_false_iff_ne]; exact fun t => h t.symm
        show (c == x && _) = false
        rw [this]; rfl
      rw [if_neg h, repA_miss (by simp) x l this, ih]; rfl
theorem rep_name (l : List UInt8) : repA [34] [37, 50, 50] (repA [13] [37, 48, 68] (repA [10] [37, 48, 65] l)) = namL l := by
  rw [rep_map, rep_map, rep_map, List.flatMap_assoc, List.flatMap_assoc]
  unfold namL
  congr 1
  funext x
  unfold nameB
  by_cases h1 : x = 10
  · rw [if_pos h1, if_pos h1]; rfl
  · rw [if_neg h1, if_neg h1]
    by_cases h2 : x = 13
    · simp [h2]
    · by_cases h3 : x = 34
      · simp [h3]
      · simp [h2, h3]
def R1 (l : List UInt8) : List UInt8 := repA [37, 48, 65] [10] l
end Go.Proofs.YtmnpnpmopbkabaaDoor

namespace Go.Proofs.YtmnpnpmopbkabaaDoor
open Go.Shelf Go.RowKit
set_option maxRecDepth 100000
def pcoren : Go.Shelf.Ren := ⟨fun | 143 => 51 | 144 => 32 | 217 => 66 | 219 => 63 | 224 => 71 | 225 => 70 | 266 => 73 | 267 => 72 | 314 => 74 | n => n, fun | 3 => 3 | 4 => 4 | 5 => 5 | 9 => 9 | 46 => 80 | 51 => 91 | 72 => 43 | 146 => 92 | n => n, fun | 1 => 3 | n => n⟩
theorem lays144 : Go.Proofs.Lays.n144 Tryd.prog pcoren := {
  mixed := by kernel_rfl
  f143 := Tryd.func51.trans (congrArg some (by kernel_rfl))
  f144 := Tryd.func32.trans (congrArg some (by kernel_rfl))
  f217 := Tryd.func66.trans (congrArg some (by kernel_rfl))
  f219 := Tryd.func63.trans (congrArg some (by kernel_rfl))
  f224 := Tryd.func71.trans (congrArg some (by kernel_rfl))
  f225 := Tryd.func70.trans (congrArg some (by kernel_rfl))
  f266 := Tryd.func73.trans (congrArg some (by kernel_rfl))
  f267 := Tryd.func72.trans (congrArg some (by kernel_rfl))
  f314 := Tryd.func74.trans (congrArg some (by kernel_rfl))
  t3 := Tryd.underlying3
  a3 := Tryd.isAgg3
  z3 := Tryd.sizeOf3
  v3 := Tryd.zeroValue3
  t4 := Tryd.underlying4
  a4 := Tryd.isAgg4
  z4 := Tryd.sizeOf4
  v4 := Tryd.zeroValue4
  t5 := Tryd.underlying5
  a5 := Tryd.isAgg5
  z5 := Tryd.sizeOf5
  v5 := Tryd.zeroValue5
  t9 := Tryd.underlying9
  a9 := Tryd.isAgg9
  z9 := Tryd.sizeOf9
  v9 := Tryd.zeroValue9
  t46 := Tryd.underlying80
  a46 := Tryd.isAgg80
  z46 := Tryd.sizeOf80
  v46 := Tryd.zeroValue80
  t51 := Tryd.underlying91
  a51 := Tryd.isAgg91
  z51 := Tryd.sizeOf91
  v51 := Tryd.zeroValue91
  t146 := Tryd.underlying92
  a146 := Tryd.isAgg92
  z146 := Tryd.sizeOf92
  v146 := Tryd.zeroValue92
  g1 := by kernel_rfl }
theorem bL_ne {t : ByteArray} (h : 0 < t.size) : bL t ≠ [] := by
  intro e
  have e2 : (bL t).length = t.size := by simp
  rw [e] at e2
  simp at e2
  omega
theorem contains_any (s t : ByteArray) (w : World) (hs : s.size ≤ 1073741824) (ht : 0 < t.size) (hm : SomeMax w) :
    Calls Tryd.prog 32 #[.string s, .string t] w fun e w' => e = .returned (.bool (cutL (bL t) (bL s)).isSome) ∧ w' = w := by
  obtain ⟨m, hm⟩ := hm
  have h := Any.strings_Contains lays144 s t m w (by omega) hm
  rw [has_cut (bL t) (bL_ne ht) (bL s)] at h
  exact h
/-- Pieces in a block, one behind the other. -/
def PcsAt (w : World) (g : Nat) (ts : List (List UInt8)) : Prop := ∀ i (h : i < ts.length), w.cell? ⟨g, i, none⟩ = some (.string (txt ts[i]))
theorem PcsAt.below {w w' : World} {g : Nat} {ts : List (List UInt8)} (h : PcsAt w g ts) (hb : Below w.heap.size w w') : PcsAt w' g ts :=
  fun i hi => (hb.cell (p := ⟨g, i, none⟩) (World.block_lt_of_cell? _ _ (h i hi))).trans (h i hi)
theorem replaceP_any (l old new : List UInt8) (w : World) (hs : l.length ≤ 1073741824) (hm : SomeMax w) (h1 : 1 ≤ old.length) (h2 : new.length ≤ 3) (hne : old ≠ new) :
    Calls Tryd.prog 30 #[.string (txt l), .string (txt old), .string (txt new)] w fun e w' => e = .returned (.string (txt (repA old new l))) ∧ Below w.heap.size w w' := by
  obtain ⟨m, hm⟩ := hm
  have hc := Lib.countB_mul_le (txt old) h1 (txt l).size (txt l) (Nat.le_refl _)
  have z : (txt l).size = l.length := rfl
  have hc2 : Lib.countB (txt l) (txt old) * (txt new).size ≤ 3 * (txt l).size := by
    have a : Lib.countB (txt l) (txt old) * 1 ≤ Lib.countB (txt l) (txt old) * (txt old).size := Nat.mul_le_mul_left _ h1
    have b : Lib.countB (txt l) (txt old) * (txt new).size ≤ Lib.countB (txt l) (txt old) * 3 := Nat.mul_le_mul_left _ h2
    omega
  have := Any.strings_ReplaceAll lays155 extraRp (txt l) (txt old) (txt new) m w (by rw [z]; omega) hm h1 (by rw [z] at hc2 ⊢; omega)
  have e : Lib.replaceAll (txt l).data.toList (txt old).data.toList (txt new).data.toList = repA old new l := repA_all hne l
  rw [e] at this
  exact this
end Go.Proofs.YtmnpnpmopbkabaaDoor

namespace Go.Proofs.YtmnpnpmopbkabaaDoor
open Go.RowKit
set_option maxRecDepth 100000
/-- The first place of a text, from a place on. -/
def fndI (t l : List UInt8) (k : Nat) : Int := match cutL t l with
  | some p => ((k + p.1.length : Nat) : Int)
  | none => -1
theorem cut_short {t : List UInt8} : ∀ {l : List UInt8}, l.length < t.length → cutL t l = none
  | [], h => cut_end (fun e => by rw [e] at h; simp at h)
  | c :: l, h => by
    have e : t.isPrefixOf (c :: l) = false := by
      cases q : t.isPrefixOf (c :: l) with
      | false => rfl
      | true =>
        have := (List.isPrefixOf_iff_prefix.1 q).length_le
        omega
    rw [cut_miss e, cut_short (by simp at h; omega)]; rfl
theorem fnd_hit' {t l : List UInt8} {k : Nat} (h : t.isPrefixOf l = true) : fndI t l k = (k : Int) := by
  unfold fndI; rw [cut_hit h]; rfl
theorem fnd_miss' {t l : List UInt8} {c : UInt8} {k : Nat} (h : t.isPrefixOf (c :: l) = false) : fndI t (c :: l) k = fndI t l (k + 1) := by
  unfold fndI; rw [cut_miss h]
  cases cutL t l with
  | none => rfl
  | some p =>
    show ((k + (c :: p.1).length : Nat) : Int) = ((k + 1 + p.1.length : Nat) : Int)
    rw [List.length_cons]; omega
theorem fnd_short {t l : List UInt8} {k : Nat} (h : l.length < t.length) : fndI t l k = -1 := by
  unfold fndI; rw [cut_short h]
theorem ext_pre (s t : ByteArray) (k : Nat) (_h : k + t.size ≤ s.size) : ((s.extract k (k + t.size)).toList == t.toList) = (bL t).isPrefixOf ((bL s).drop k) := by
  rw [ByteArray.toList_eq, ByteArray.toList_eq]
  simp only [ByteArray.data_extract, Array.toList_extract]
  rw [List.extract_eq_take_drop]
  have e : k + t.size - k = t.size := by omega
  rw [e, Bool.eq_iff_iff, beq_iff_eq, List.isPrefixOf_iff_prefix]
  constructor
  · intro q
    refine ⟨(List.drop t.size (List.drop k (bL s))), ?_⟩
    rw [show bL t = List.take t.size (List.drop k s.data.toList) from q.symm]
    exact List.take_append_drop _ _
  · rintro ⟨z, hz⟩
    have : List.take t.size (List.drop k (bL s)) = bL t := by
      rw [← hz]
      exact List.take_left' (len_bL t)
    exact this
set_option maxHeartbeats 4000000 in
theorem refFindP_any (s t : ByteArray) (f : Nat) (w : World) (hs : s.size ≤ 1099511627776) (ht : t.size ≤ 1099511627776) (hf : f ≤ s.size) :
    Calls Tryd.prog 41 #[.string s, .string t, .int .i64 (f : Int)] w fun e w' => e = .returned (.int .i64 (fndI (bL t) ((bL s).drop f) f)) ∧ w' = w := by
  obtain ⟨RES, hRES⟩ : ∃ R, Hid (fndI (bL t) ((bL s).drop f) f = R) := ⟨_, show _ = _ from rfl⟩
  rw [hRES.out]
  go_enter Tryd.func41, Tryd.ntmps41
  go_wp2_with fail
  go_loop [7] (fun iv => ∃ k : Nat, k ≤ s.size ∧ iv = .int .i64 k ∧ Hid (fndI (bL t) ((bL s).drop k) k = RES)) (fun iv => s.size + 1 - (intOf iv).toNat)
  case atStart => exact ⟨f, hf, rfl, hRES⟩
  case round =>
    obtain ⟨k, hk, rfl, HE⟩ := hrel
    clear hRES
    by_cases g : k + t.size ≤ s.size
    · have d0 : decide ((k : Int) + (t.size : Int) ≤ (s.size : Int)) = true := decide_eq_true (by omega)
      have k2 : (k : Int) + (t.size : Int) ≤ (s.size : Int) := by omega
      have k0 : (0 : Int) ≤ (k : Int) := by omega
      have EP := hide (ext_pre s t k g)
      cases q : (bL t).isPrefixOf ((bL s).drop k) with
      | true =>
        have q1 : ((s.extract k (k + t.size)).toList == t.toList) = true := by rw [EP.out, q]
        have R1 : Hid (RES = (k : Int)) := by show _ = _; rw [← HE.out]; exact fnd_hit' q
        clear EP HE q
        go_wp2_with fail
        go_ret
        exact ⟨ret_int R1.out.symm, rfl⟩
      | false =>
        have q1 : ((s.extract k (k + t.size)).toList == t.toList) = false := by rw [EP.out, q]
        have lt : k < s.size := by
          apply Classical.byContradiction
          intro h
          have t0 : t.size = 0 := by omega
          have : bL t = [] := List.eq_nil_of_length_eq_zero (by rw [len_bL]; exact t0)
          rw [this] at q
          simp at q
        have HN : Hid (fndI (bL t) ((bL s).drop (k + 1)) (k + 1) = RES) := by
          show _ = _
          have D := drop1 s k lt
          rw [← HE.out]
          rw [show (bL s).drop k = s[k] :: (bL s).drop (k + 1) from D] at q ⊢
          exact (fnd_miss' q).symm
        clear EP HE q
        go_wp2_with fail
        go_round
        case rel => exact ⟨k + 1, by omega, by go_num, HN⟩
        case measure => simp [intOf]; omega
    · have d0 : decide ((k : Int) + (t.size : Int) ≤ (s.size : Int)) = false := decide_eq_false (by omega)
      have R1 : Hid (RES = -1) := by
        show _ = _
        rw [← HE.out]
        exact fnd_short (by rw [List.length_drop, len_bL, len_bL]; omega)
      clear HE
      go_wp2_with fail
      go_ret
      exact ⟨ret_int R1.out.symm, rfl⟩
theorem bL_app (a b : ByteArray) : bL (a ++ b) = bL a ++ bL b := by simp
theorem txt_bL (a : ByteArray) : txt (bL a) = a := rfl
theorem name_size {s : ByteArray} : (txt (nameL (bL s))).size ≤ 6 * s.size := by
  have h := nam_len (prsL (bL s)) (prsL (bL s)).length
  rw [List.take_length] at h
  have h2 := pairsS_size s
  have e2 : (pairsS s).size = (prsL (bL s)).length := rfl
  have e : (txt (nameL (bL s))).size = (namL (prsL (bL s))).length := rfl
  omega
theorem type_size {s : ByteArray} : (txt (typeL (bL s))).size ≤ s.size + 24 := by
  have e : (txt (typeL (bL s))).size = (typeL (bL s)).length := rfl
  rw [e]
  unfold typeL
  split
  · show 24 ≤ _; omega
  · rw [len_bL]; omega
/-- An entry whose texts aren't too long. -/
def EnZ (n : Nat) (e : En) : Prop := e.name.size ≤ n ∧ e.val.size ≤ n ∧ e.fname.size ≤ n ∧ e.typ.size ≤ n
theorem part_size {e : En} {n : Nat} (h : EnZ n e) : (partL e).length ≤ 16 * n + 200 := by
  have a1 := name_size (s := e.name)
  have a2 := name_size (s := e.fname)
  have a3 := type_size (s := e.typ)
  have b1 : (txt (nameL (bL e.name))).size = (nameL (bL e.name)).length := rfl
  have b2 : (txt (nameL (bL e.fname))).size = (nameL (bL e.fname)).length := rfl
  have b3 : (txt (typeL (bL e.typ))).size = (typeL (bL e.typ)).length := rfl
  have p1 := pairsS_size e.val
  have p2 : (pairsS e.val).size = (prsL (bL e.val)).length := rfl
  have z := len_bL e.val
  have l1 : c1L.length = 38 := rfl
  have l2 : c2L.length = 12 := rfl
  have l3 : c3L.length = 16 := rfl
  have l4 : c4L.length = 4 := rfl
  obtain ⟨h1, h2, h3, h4⟩ := h
  unfold partL headP valP
  cases e.file <;> simp only [Bool.false_eq_true, if_false, if_true, List.length_append, List.length_cons, List.length_nil] <;> omega
theorem sum_le' {a b : ByteArray} {m n : Nat} (h : a.size ≤ m) (g : b.size ≤ n) (q : m + n ≤ 9223372036854775807) : a.size + b.size ≤ 9223372036854775807 := by omega
theorem app_le {a b : ByteArray} {m n : Nat} (h : a.size ≤ m) (g : b.size ≤ n) : (a ++ b).size ≤ m + n := by rw [ByteArray.size_append]; omega
set_option maxHeartbeats 4000000 in
theorem refPart_any (e0 : En) (w : World) (hz : EnZ 1000000 e0) :
    Calls Tryd.prog 26 #[.agg #[.string e0.name, .string e0.val, .bool e0.file, .string e0.fname, .string e0.typ]] w fun e w' => e = .returned (.string (txt (partL e0))) ∧ Below w.heap.size w w' := by
  obtain ⟨z0, z1, z2, z3⟩ := hz
  have H0 := hide (fun W => refName_any_PrtR1 e0.name W (by omega))
  have H1 := hide (fun W => refName_any_PrtR1 e0.fname W (by omega))
  have H2 := hide (fun W => refTypeP_any e0.typ W (by omega))
  have H3 := hide (fun W => refPairs_any e0.val W (by omega))
  have s0 := name_size (s := e0.name)
  have s1 := name_size (s := e0.fname)
  have s2 := type_size (s := e0.typ)
  have s3 := pairsS_size e0.val
  have E : Hid (txt (partL e0) = txt (c1L ++ bL (txt (nameL (bL e0.name))) ++ [34] ++ (if e0.file = true then c2L ++ bL (txt (nameL (bL e0.fname))) ++ [34] ++ c3L ++ bL (txt (typeL (bL e0.typ))) else []) ++ c4L ++ (if e0.file = true then bL e0.val else bL (pairsS e0.val)))) := rfl
  have K := hide (Bk.new w [.string e0.name, .string e0.val, .bool e0.file, .string e0.fname, .string e0.typ] 34)
  have B0 : Hid (Below w.heap.size w (w.alloc (.cells #[.string e0.name, .string e0.val, .bool e0.file, .string e0.fname, .string e0.typ] 34))) := (Below.refl _ w).alloc (Nat.le_refl _) _
  generalize txt (partL e0) = RES at *
  generalize txt (nameL (bL e0.name)) = n0 at *
  generalize txt (nameL (bL e0.fname)) = n1 at *
  generalize txt (typeL (bL e0.typ)) = n2 at *
  generalize pairsS e0.val = n3 at *
  generalize e0.name = t0 at *
  generalize e0.val = t1 at *
  generalize e0.fname = t2 at *
  generalize e0.typ = t3 at *
  generalize e0.file = fb at *
  cases fb with
  | true =>
    rw [if_pos rfl, if_pos rfl] at E
    have E2 : Hid ((⟨#[67, 111, 110, 116, 101, 110, 116, 45, 68, 105, 115, 112, 111, 115, 105, 116, 105, 111, 110, 58, 32, 102, 111, 114, 109, 45, 100, 97, 116, 97, 59, 32, 110, 97, 109, 101, 61, 34]⟩ : ByteArray) ++ n0 ++ ⟨#[34]⟩ ++ ⟨#[59, 32, 102, 105, 108, 101, 110, 97, 109, 101, 61, 34]⟩ ++ n1 ++ ⟨#[34, 13, 10, 67, 111, 110, 116, 101, 110, 116, 45, 84, 121, 112, 101, 58, 32]⟩ ++ n2 ++ ⟨#[13, 10, 13, 10]⟩ ++ t1 = RES) := by
      show _ = _
      rw [E.out, ← txt_bL ((⟨#[67, 111, 110, 116, 101, 110, 116, 45, 68, 105, 115, 112, 111, 115, 105, 116, 105, 111, 110, 58, 32, 102, 111, 114, 109, 45, 100, 97, 116, 97, 59, 32, 110, 97, 109, 101, 61, 34]⟩ : ByteArray) ++ n0 ++ ⟨#[34]⟩ ++ ⟨#[59, 32, 102, 105, 108, 101, 110, 97, 109, 101, 61, 34]⟩ ++ n1 ++ ⟨#[34, 13, 10, 67, 111, 110, 116, 101, 110, 116, 45, 84, 121, 112, 101, 58, 32]⟩ ++ n2 ++ ⟨#[13, 10, 13, 10]⟩ ++ t1)]
      simp only [bL_app, List.append_assoc]
      rfl
    clear E H3
    have S0 : (⟨#[67, 111, 110, 116, 101, 110, 116, 45, 68, 105, 115, 112, 111, 115, 105, 116, 105, 111, 110, 58, 32, 102, 111, 114, 109, 45, 100, 97, 116, 97, 59, 32, 110, 97, 109, 101, 61, 34]⟩ : ByteArray).size ≤ 38 := by decide
    have S1 : ((⟨#[67, 111, 110, 116, 101, 110, 116, 45, 68, 105, 115, 112, 111, 115, 105, 116, 105, 111, 110, 58, 32, 102, 111, 114, 109, 45, 100, 97, 116, 97, 59, 32, 110, 97, 109, 101, 61, 34]⟩ : ByteArray) ++ n0).size ≤ 6000038 := app_le S0 (show n0.size ≤ 6000000 by omega)
    have S2 : ((⟨#[67, 111, 110, 116, 101, 110, 116, 45, 68, 105, 115, 112, 111, 115, 105, 116, 105, 111, 110, 58, 32, 102, 111, 114, 109, 45, 100, 97, 116, 97, 59, 32, 110, 97, 109, 101, 61, 34]⟩ : ByteArray) ++ n0 ++ (⟨#[34]⟩ : ByteArray)).size ≤ 6000039 := app_le S1 (show (⟨#[34]⟩ : ByteArray).size ≤ 1 by decide)
    have S3 : ((⟨#[67, 111, 110, 116, 101, 110, 116, 45, 68, 105, 115, 112, 111, 115, 105, 116, 105, 111, 110, 58, 32, 102, 111, 114, 109, 45, 100, 97, 116, 97, 59, 32, 110, 97, 109, 101, 61, 34]⟩ : ByteArray) ++ n0 ++ (⟨#[34]⟩ : ByteArray) ++ (⟨#[59, 32, 102, 105, 108, 101, 110, 97, 109, 101, 61, 34]⟩ : ByteArray)).size ≤ 6000051 := app_le S2 (show (⟨#[59, 32, 102, 105, 108, 101, 110, 97, 109, 101, 61, 34]⟩ : ByteArray).size ≤ 12 by decide)
    have S4 : ((⟨#[67, 111, 110, 116, 101, 110, 116, 45, 68, 105, 115, 112, 111, 115, 105, 116, 105, 111, 110, 58, 32, 102, 111, 114, 109, 45, 100, 97, 116, 97, 59, 32, 110, 97, 109, 101, 61, 34]⟩ : ByteArray) ++ n0 ++ (⟨#[34]⟩ : ByteArray) ++ (⟨#[59, 32, 102, 105, 108, 101, 110, 97, 109, 101, 61, 34]⟩ : ByteArray) ++ n1).size ≤ 12000051 := app_le S3 (show n1.size ≤ 6000000 by omega)
    have S5 : ((⟨#[67, 111, 110, 116, 101, 110, 116, 45, 68, 105, 115, 112, 111, 115, 105, 116, 105, 111, 110, 58, 32, 102, 111, 114, 109, 45, 100, 97, 116, 97, 59, 32, 110, 97, 109, 101, 61, 34]⟩ : ByteArray) ++ n0 ++ (⟨#[34]⟩ : ByteArray) ++ (⟨#[59, 32, 102, 105, 108, 101, 110, 97, 109, 101, 61, 34]⟩ : ByteArray) ++ n1 ++ (⟨#[34, 13, 10, 67, 111, 110, 116, 101, 110, 116, 45, 84, 121, 112, 101, 58, 32]⟩ : ByteArray)).size ≤ 12000068 := app_le S4 (show (⟨#[34, 13, 10, 67, 111, 110, 116, 101, 110, 116, 45, 84, 121, 112, 101, 58, 32]⟩ : ByteArray).size ≤ 17 by decide)
    have S6 : ((⟨#[67, 111, 110, 116, 101, 110, 116, 45, 68, 105, 115, 112, 111, 115, 105, 116, 105, 111, 110, 58, 32, 102, 111, 114, 109, 45, 100, 97, 116, 97, 59, 32, 110, 97, 109, 101, 61, 34]⟩ : ByteArray) ++ n0 ++ (⟨#[34]⟩ : ByteArray) ++ (⟨#[59, 32, 102, 105, 108, 101, 110, 97, 109, 101, 61, 34]⟩ : ByteArray) ++ n1 ++ (⟨#[34, 13, 10, 67, 111, 110, 116, 101, 110, 116, 45, 84, 121, 112, 101, 58, 32]⟩ : ByteArray) ++ n2).size ≤ 13000092 := app_le S5 (show n2.size ≤ 1000024 by omega)
    have S7 : ((⟨#[67, 111, 110, 116, 101, 110, 116, 45, 68, 105, 115, 112, 111, 115, 105, 116, 105, 111, 110, 58, 32, 102, 111, 114, 109, 45, 100, 97, 116, 97, 59, 32, 110, 97, 109, 101, 61, 34]⟩ : ByteArray) ++ n0 ++ (⟨#[34]⟩ : ByteArray) ++ (⟨#[59, 32, 102, 105, 108, 101, 110, 97, 109, 101, 61, 34]⟩ : ByteArray) ++ n1 ++ (⟨#[34, 13, 10, 67, 111, 110, 116, 101, 110, 116, 45, 84, 121, 112, 101, 58, 32]⟩ : ByteArray) ++ n2 ++ (⟨#[13, 10, 13, 10]⟩ : ByteArray)).size ≤ 13000096 := app_le S6 (show (⟨#[13, 10, 13, 10]⟩ : ByteArray).size ≤ 4 by decide)
    go_enter Tryd.func26, Tryd.ntmps26
    go_wp2_with fail
    refine (H0.out _).mono ?_
    rintro e w1 ⟨rfl, b1⟩
    have K1 := hide (K.out.below b1)
    have B1 := hide (chain B0.out b1)
    have x2 := K1.out.cell 2 rfl
    have DR : Below w1.heap.size w1 w1.drew := ⟨rfl, rfl, rfl, Nat.le_refl _, fun _ _ => rfl⟩
    have BD := hide (chain B1.out DR)
    have KD := hide (K1.out.below DR)
    have x1 := K1.out.cell 1 rfl
    have x3 := K1.out.cell 3 rfl
    have x4 := K1.out.cell 4 rfl
    clear b1 B0 K H0 DR B1
    go_wp2_with fail
    generalize (⟨#[67, 111, 110, 116, 101, 110, 116, 45, 68, 105, 115, 112, 111, 115, 105, 116, 105, 111, 110, 58, 32, 102, 111, 114, 109, 45, 100, 97, 116, 97, 59, 32, 110, 97, 109, 101, 61, 34]⟩ : ByteArray) ++ n0 ++ ⟨#[34]⟩ = g0 at *
    have p1 := fun w => run_string_add_sum (P := Tryd.prog) w (g0) (⟨#[59, 32, 102, 105, 108, 101, 110, 97, 109, 101, 61, 34]⟩ : ByteArray) (sum_le' S2 (show (⟨#[59, 32, 102, 105, 108, 101, 110, 97, 109, 101, 61, 34]⟩ : ByteArray).size ≤ 12 by decide) (by decide))
    have p2 := fun w => run_string_add_sum (P := Tryd.prog) w (g0 ++ (⟨#[59, 32, 102, 105, 108, 101, 110, 97, 109, 101, 61, 34]⟩ : ByteArray)) n1 (sum_le' S3 (show n1.size ≤ 6000000 by omega) (by decide))
    have p3 := fun w => run_string_add_sum (P := Tryd.prog) w (g0 ++ (⟨#[59, 32, 102, 105, 108, 101, 110, 97, 109, 101, 61, 34]⟩ : ByteArray) ++ n1) (⟨#[34, 13, 10, 67, 111, 110, 116, 101, 110, 116, 45, 84, 121, 112, 101, 58, 32]⟩ : ByteArray) (sum_le' S4 (show (⟨#[34, 13, 10, 67, 111, 110, 116, 101, 110, 116, 45, 84, 121, 112, 101, 58, 32]⟩ : ByteArray).size ≤ 17 by decide) (by decide))
    have p4 := fun w => run_string_add_sum (P := Tryd.prog) w (g0 ++ (⟨#[59, 32, 102, 105, 108, 101, 110, 97, 109, 101, 61, 34]⟩ : ByteArray) ++ n1 ++ (⟨#[34, 13, 10, 67, 111, 110, 116, 101, 110, 116, 45, 84, 121, 112, 101, 58, 32]⟩ : ByteArray)) n2 (sum_le' S5 (show n2.size ≤ 1000024 by omega) (by decide))
    have p5 := fun w => run_string_add_sum (P := Tryd.prog) w (g0 ++ (⟨#[59, 32, 102, 105, 108, 101, 110, 97, 109, 101, 61, 34]⟩ : ByteArray) ++ n1 ++ (⟨#[34, 13, 10, 67, 111, 110, 116, 101, 110, 116, 45, 84, 121, 112, 101, 58, 32]⟩ : ByteArray) ++ n2) (⟨#[13, 10, 13, 10]⟩ : ByteArray) (sum_le' S6 (show (⟨#[13, 10, 13, 10]⟩ : ByteArray).size ≤ 4 by decide) (by decide))
    have p6 := fun w => run_string_add_sum (P := Tryd.prog) w (g0 ++ (⟨#[59, 32, 102, 105, 108, 101, 110, 97, 109, 101, 61, 34]⟩ : ByteArray) ++ n1 ++ (⟨#[34, 13, 10, 67, 111, 110, 116, 101, 110, 116, 45, 84, 121, 112, 101, 58, 32]⟩ : ByteArray) ++ n2 ++ (⟨#[13, 10, 13, 10]⟩ : ByteArray)) t1 (sum_le' S7 (show t1.size ≤ 1000000 by omega) (by decide))
    refine wp_region_held_drew (S := fun X : World => X.cell? ⟨w.heap.size, 1, none⟩ = some (.string t1) ∧ X.cell? ⟨w.heap.size, 3, none⟩ = some (.string t2) ∧ X.cell? ⟨w.heap.size, 4, none⟩ = some (.string t3)) (by kernel_rfl) ?_ (fun hHeld => ?_)
    · exact ⟨x1, x3, x4⟩
    refine wpAnyH_take (i := 0) (oi := { dst := some 11, op := Op.move (Operand.tmp 3), type := 9, pos := "ref.go:88", after := #[], guard := none }) (v := ?_) rfl (by kernel_rfl) (by kernel_rfl) (by kernel_rfl) (fun _ _ _ h => h) (Or.inl ⟨by rfl, ?_⟩) (by assumption) ?_
    rotate_left
    · (intro w hSw; (try dsimp only at hSw); first | (go_simp; done) | (go_simp; with_reducible rfl))
    simp only [Act.put, List.setIfInBounds_toArray, List.set_cons_zero, List.set_cons_succ]
    refine wpAnyH_take (i := 1) (oi := { dst := some 12, op := Op.binOp BinOp.add 9 (Operand.tmp 11) (Operand.const (Value.string { data := #[59, 32, 102, 105, 108, 101, 110, 97, 109, 101, 61, 34] })) 9, type := 9, pos := "ref.go:88", after := #[{ on := 0, ground := Ground.data }], guard := none }) (v := ?_) rfl (by kernel_rfl) (by kernel_rfl) (by kernel_rfl) (fun _ _ _ h => h) (Or.inl ⟨by rfl, ?_⟩) (by assumption) ?_
    rotate_left
    · (intro w hSw; (try dsimp only at hSw); first | (go_simp; done) | (go_simp; with_reducible rfl))
    simp only [Act.put, List.setIfInBounds_toArray, List.set_cons_zero, List.set_cons_succ]
    refine wpAnyH_take (i := 2) (oi := { dst := some 13, op := Op.fieldAddr 34 (Operand.tmp 1) 3, type := 0, pos := "ref.go:88", after := #[], guard := none }) (v := ?_) rfl (by kernel_rfl) (by kernel_rfl) (by kernel_rfl) (fun _ _ _ h => h) (Or.inl ⟨by rfl, ?_⟩) (by assumption) ?_
    rotate_left
    · (intro w hSw; (try dsimp only at hSw); first | (go_simp; done) | (go_simp; with_reducible rfl))
    simp only [Act.put, List.setIfInBounds_toArray, List.set_cons_zero, List.set_cons_succ]
    refine wpAnyH_take (i := 3) (oi := { dst := some 14, op := Op.load 9 (Operand.tmp 13), type := 9, pos := "ref.go:88", after := #[{ on := 2, ground := Ground.data }], guard := none }) (v := ?_) rfl (by kernel_rfl) (by kernel_rfl) (by kernel_rfl) (fun _ _ _ h => h) (Or.inl ⟨by rfl, ?_⟩) (by assumption) ?_
    rotate_left
    · (intro w hSw; (try dsimp only at hSw); first | (go_simp; done) | (go_simp; with_reducible rfl))
    simp only [Act.put, List.setIfInBounds_toArray, List.set_cons_zero, List.set_cons_succ]
    refine wpAnyH_take (i := 7) (oi := { dst := some 18, op := Op.fieldAddr 34 (Operand.tmp 1) 4, type := 0, pos := "ref.go:88", after := #[], guard := none }) (v := ?_) rfl (by kernel_rfl) (by kernel_rfl) (by kernel_rfl) (fun _ _ _ h => h) (Or.inl ⟨by rfl, ?_⟩) (by assumption) ?_
    rotate_left
    · (intro w hSw; (try dsimp only at hSw); first | (go_simp; done) | (go_simp; with_reducible rfl))
    simp only [Act.put, List.setIfInBounds_toArray, List.set_cons_zero, List.set_cons_succ]
    refine wpAnyH_take (i := 8) (oi := { dst := some 19, op := Op.load 9 (Operand.tmp 18), type := 9, pos := "ref.go:88", after := #[{ on := 7, ground := Ground.data }], guard := none }) (v := ?_) rfl (by kernel_rfl) (by kernel_rfl) (by kernel_rfl) (fun _ _ _ h => h) (Or.inl ⟨by rfl, ?_⟩) (by assumption) ?_
    rotate_left
    · (intro w hSw; (try dsimp only at hSw); first | (go_simp; done) | (go_simp; with_reducible rfl))
    simp only [Act.put, List.setIfInBounds_toArray, List.set_cons_zero, List.set_cons_succ]
    refine wpAnyH_take (i := 12) (oi := { dst := some 23, op := Op.fieldAddr 34 (Operand.tmp 1) 1, type := 0, pos := "ref.go:88", after := #[], guard := none }) (v := ?_) rfl (by kernel_rfl) (by kernel_rfl) (by kernel_rfl) (fun _ _ _ h => h) (Or.inl ⟨by rfl, ?_⟩) (by assumption) ?_
    rotate_left
    · (intro w hSw; (try dsimp only at hSw); first | (go_simp; done) | (go_simp; with_reducible rfl))
    simp only [Act.put, List.setIfInBounds_toArray, List.set_cons_zero, List.set_cons_succ]
    refine wpAnyH_take (i := 13) (oi := { dst := some 24, op := Op.load 9 (Operand.tmp 23), type := 9, pos := "ref.go:88", after := #[{ on := 12, ground := Ground.data }], guard := none }) (v := ?_) rfl (by kernel_rfl) (by kernel_rfl) (by kernel_rfl) (fun _ _ _ h => h) (Or.inl ⟨by rfl, ?_⟩) (by assumption) ?_
    rotate_left
    · (intro w hSw; (try dsimp only at hSw); first | (go_simp; done) | (go_simp; with_reducible rfl))
    simp only [Act.put, List.setIfInBounds_toArray, List.set_cons_zero, List.set_cons_succ]
    refine wpAnyH_ready (rs := [4]) (by kernel_rfl) (by simp) ?_
    refine AllReadyH.cons (i := 4) (o := { dst := some 15, op := Op.call { callee := Callee.value (Operand.func 42), args := #[Operand.tmp 14], argTypes := #[9] }, type := 9, pos := "ref.go:88", after := #[{ on := 3, ground := Ground.data }], guard := none }) rfl (fun K hK => ?_) AllReadyH.nil
    go_simp
    refine (H1.out _).mono ?_
    rintro e w2 ⟨rfl, b2⟩
    have K2 := hide (KD.out.below b2)
    have B2 := hide (chain BD.out b2)
    clear b2
    go_wp2_with fail
    refine hK.out _ _ ?_ (fun hHeld => ?_)
    · exact ⟨K2.out.cell 1 rfl, K2.out.cell 3 rfl, K2.out.cell 4 rfl⟩
    clear hK K
    refine wpAnyH_take (i := 5) (oi := { dst := some 16, op := Op.binOp BinOp.add 9 (Operand.tmp 12) (Operand.tmp 15) 9, type := 9, pos := "ref.go:88", after := #[{ on := 1, ground := Ground.data }, { on := 4, ground := Ground.data }], guard := none }) (v := ?_) rfl (by kernel_rfl) (by kernel_rfl) (by kernel_rfl) (fun _ _ _ h => h) (Or.inl ⟨by rfl, ?_⟩) (by assumption) ?_
    rotate_left
    · (intro w hSw; (try dsimp only at hSw); first | (go_simp; done) | (go_simp; with_reducible rfl))
    simp only [Act.put, List.setIfInBounds_toArray, List.set_cons_zero, List.set_cons_succ]
    refine wpAnyH_take (i := 6) (oi := { dst := some 17, op := Op.binOp BinOp.add 9 (Operand.tmp 16) (Operand.const (Value.string { data := #[34, 13, 10, 67, 111, 110, 116, 101, 110, 116, 45, 84, 121, 112, 101, 58, 32] })) 9, type := 9, pos := "ref.go:88", after := #[{ on := 5, ground := Ground.data }], guard := none }) (v := ?_) rfl (by kernel_rfl) (by kernel_rfl) (by kernel_rfl) (fun _ _ _ h => h) (Or.inl ⟨by rfl, ?_⟩) (by assumption) ?_
    rotate_left
    · (intro w hSw; (try dsimp only at hSw); first | (go_simp; done) | (go_simp; with_reducible rfl))
    simp only [Act.put, List.setIfInBounds_toArray, List.set_cons_zero, List.set_cons_succ]
    refine wpAnyH_ready (rs := [9]) (by kernel_rfl) (by simp) ?_
    refine AllReadyH.cons (i := 9) (o := { dst := some 20, op := Op.call { callee := Callee.value (Operand.func 43), args := #[Operand.tmp 19], argTypes := #[9] }, type := 9, pos := "ref.go:88", after := #[{ on := 8, ground := Ground.data }, { on := 4, ground := Ground.chain }], guard := none }) rfl (fun K hK => ?_) AllReadyH.nil
    go_simp
    refine (H2.out _).mono ?_
    rintro e w3 ⟨rfl, hu⟩
    obtain rfl : w2 = w3 := hu.symm
    go_wp2_with fail
    refine hK.out _ _ ?_ (fun hHeld => ?_)
    · exact ⟨K2.out.cell 1 rfl, K2.out.cell 3 rfl, K2.out.cell 4 rfl⟩
    clear hK K
    refine wpAnyH_take (i := 10) (oi := { dst := some 21, op := Op.binOp BinOp.add 9 (Operand.tmp 17) (Operand.tmp 20) 9, type := 9, pos := "ref.go:88", after := #[{ on := 6, ground := Ground.data }, { on := 9, ground := Ground.data }], guard := none }) (v := ?_) rfl (by kernel_rfl) (by kernel_rfl) (by kernel_rfl) (fun _ _ _ h => h) (Or.inl ⟨by rfl, ?_⟩) (by assumption) ?_
    rotate_left
    · (intro w hSw; (try dsimp only at hSw); first | (go_simp; done) | (go_simp; with_reducible rfl))
    simp only [Act.put, List.setIfInBounds_toArray, List.set_cons_zero, List.set_cons_succ]
    refine wpAnyH_take (i := 11) (oi := { dst := some 22, op := Op.binOp BinOp.add 9 (Operand.tmp 21) (Operand.const (Value.string { data := #[13, 10, 13, 10] })) 9, type := 9, pos := "ref.go:88", after := #[{ on := 10, ground := Ground.data }], guard := none }) (v := ?_) rfl (by kernel_rfl) (by kernel_rfl) (by kernel_rfl) (fun _ _ _ h => h) (Or.inl ⟨by rfl, ?_⟩) (by assumption) ?_
    rotate_left
    · (intro w hSw; (try dsimp only at hSw); first | (go_simp; done) | (go_simp; with_reducible rfl))
    simp only [Act.put, List.setIfInBounds_toArray, List.set_cons_zero, List.set_cons_succ]
    refine wpAnyH_take (i := 14) (oi := { dst := some 25, op := Op.binOp BinOp.add 9 (Operand.tmp 22) (Operand.tmp 24) 9, type := 9, pos := "ref.go:88", after := #[{ on := 11, ground := Ground.data }, { on := 13, ground := Ground.data }], guard := none }) (v := ?_) rfl (by kernel_rfl) (by kernel_rfl) (by kernel_rfl) (fun _ _ _ h => h) (Or.inl ⟨by rfl, ?_⟩) (by assumption) ?_
    rotate_left
    · (intro w hSw; (try dsimp only at hSw); first | (go_simp; done) | (go_simp; with_reducible rfl))
    simp only [Act.put, List.setIfInBounds_toArray, List.set_cons_zero, List.set_cons_succ]
    refine wpAnyH_take (i := 15) (oi := { dst := some 2, op := Op.assign (Operand.tmp 25), type := 9, pos := "ref.go:88", after := #[{ on := 14, ground := Ground.data }, { on := 9, ground := Ground.chain }, { on := 0, ground := Ground.phase }, { on := 1, ground := Ground.phase }, { on := 2, ground := Ground.phase }, { on := 3, ground := Ground.phase }, { on := 4, ground := Ground.phase }, { on := 5, ground := Ground.phase }, { on := 6, ground := Ground.phase }, { on := 7, ground := Ground.phase }, { on := 8, ground := Ground.phase }, { on := 9, ground := Ground.phase }, { on := 10, ground := Ground.phase }, { on := 11, ground := Ground.phase }, { on := 12, ground := Ground.phase }, { on := 13, ground := Ground.phase }, { on := 14, ground := Ground.phase }], guard := none }) (v := ?_) rfl (by kernel_rfl) (by kernel_rfl) (by kernel_rfl) (fun _ _ _ h => h) (Or.inl ⟨by rfl, ?_⟩) (by assumption) ?_
    rotate_left
    · (intro w hSw; (try dsimp only at hSw); first | (go_simp; done) | (go_simp; with_reducible rfl))
    simp only [Act.put, List.setIfInBounds_toArray, List.set_cons_zero, List.set_cons_succ]
    refine wpAnyH_done (by kernel_rfl) ?_ _
    go_wp2_with fail
    go_ret
    exact ⟨ret_txt E2.out, B2.out⟩
  | false =>
    rw [if_neg (by decide), if_neg (by decide), List.append_nil] at E
    have E2 : Hid ((⟨#[67, 111, 110, 116, 101, 110, 116, 45, 68, 105, 115, 112, 111, 115, 105, 116, 105, 111, 110, 58, 32, 102, 111, 114, 109, 45, 100, 97, 116, 97, 59, 32, 110, 97, 109, 101, 61, 34]⟩ : ByteArray) ++ n0 ++ ⟨#[34]⟩ ++ ⟨#[13, 10, 13, 10]⟩ ++ n3 = RES) := by
      show _ = _
      rw [E.out, ← txt_bL ((⟨#[67, 111, 110, 116, 101, 110, 116, 45, 68, 105, 115, 112, 111, 115, 105, 116, 105, 111, 110, 58, 32, 102, 111, 114, 109, 45, 100, 97, 116, 97, 59, 32, 110, 97, 109, 101, 61, 34]⟩ : ByteArray) ++ n0 ++ ⟨#[34]⟩ ++ ⟨#[13, 10, 13, 10]⟩ ++ n3)]
      simp only [bL_app, List.append_assoc]
      rfl
    clear E H1 H2
    have S0 : (⟨#[67, 111, 110, 116, 101, 110, 116, 45, 68, 105, 115, 112, 111, 115, 105, 116, 105, 111, 110, 58, 32, 102, 111, 114, 109, 45, 100, 97, 116, 97, 59, 32, 110, 97, 109, 101, 61, 34]⟩ : ByteArray).size ≤ 38 := by decide
    have S1 : ((⟨#[67, 111, 110, 116, 101, 110, 116, 45, 68, 105, 115, 112, 111, 115, 105, 116, 105, 111, 110, 58, 32, 102, 111, 114, 109, 45, 100, 97, 116, 97, 59, 32, 110, 97, 109, 101, 61, 34]⟩ : ByteArray) ++ n0).size ≤ 6000038 := app_le S0 (show n0.size ≤ 6000000 by omega)
    have S2 : ((⟨#[67, 111, 110, 116, 101, 110, 116, 45, 68, 105, 115, 112, 111, 115, 105, 116, 105, 111, 110, 58, 32, 102, 111, 114, 109, 45, 100, 97, 116, 97, 59, 32, 110, 97, 109, 101, 61, 34]⟩ : ByteArray) ++ n0 ++ (⟨#[34]⟩ : ByteArray)).size ≤ 6000039 := app_le S1 (show (⟨#[34]⟩ : ByteArray).size ≤ 1 by decide)
    have S3 : ((⟨#[67, 111, 110, 116, 101, 110, 116, 45, 68, 105, 115, 112, 111, 115, 105, 116, 105, 111, 110, 58, 32, 102, 111, 114, 109, 45, 100, 97, 116, 97, 59, 32, 110, 97, 109, 101, 61, 34]⟩ : ByteArray) ++ n0 ++ (⟨#[34]⟩ : ByteArray) ++ (⟨#[13, 10, 13, 10]⟩ : ByteArray)).size ≤ 6000043 := app_le S2 (show (⟨#[13, 10, 13, 10]⟩ : ByteArray).size ≤ 4 by decide)
    go_enter Tryd.func26, Tryd.ntmps26
    go_wp2_with fail
    refine (H0.out _).mono ?_
    rintro e w1 ⟨rfl, b1⟩
    have K1 := hide (K.out.below b1)
    have B1 := hide (chain B0.out b1)
    have x2 := K1.out.cell 2 rfl
    have x1 := K1.out.cell 1 rfl
    clear b1 B0 K H0
    go_wp2_with fail
    refine (H3.out _).mono ?_
    rintro e w2 ⟨rfl, b2⟩
    have B2 := hide (chain B1.out b2)
    go_wp2_with fail
    go_ret
    exact ⟨ret_txt E2.out, B2.out⟩
end Go.Proofs.YtmnpnpmopbkabaaDoor

namespace Go.Proofs.YtmnpnpmopbkabaaDoor
open Go.RowKit
set_option maxRecDepth 100000
/-- The table of signs. -/
structure SgP (w : World) : Prop where
  c0 : w.cell? ⟨0, 0, none⟩ = some (.string ⟨#[10]⟩)
  c1 : w.cell? ⟨0, 1, none⟩ = some (.string ⟨#[37, 48, 65]⟩)
  c2 : w.cell? ⟨0, 2, none⟩ = some (.string ⟨#[13]⟩)
  c3 : w.cell? ⟨0, 3, none⟩ = some (.string ⟨#[37, 48, 68]⟩)
  c4 : w.cell? ⟨0, 4, none⟩ = some (.string ⟨#[34]⟩)
  c5 : w.cell? ⟨0, 5, none⟩ = some (.string ⟨#[37, 50, 50]⟩)
theorem SgP.below {w w' : World} (h : SgP w) (hb : Below w.heap.size w w') : SgP w' := ⟨cell_below h.c0 hb, cell_below h.c1 hb, cell_below h.c2 hb, cell_below h.c3 hb, cell_below h.c4 hb, cell_below h.c5 hb⟩
/-- What the program's road of layer 20 names. -/
structure PtTabs (w : World) : Prop where
  sg : SgP w
  mx : SomeMax w
theorem PtTabs.below {w w' : World} (h : PtTabs w) (hb : Below w.heap.size w w') : PtTabs w' := ⟨h.sg.below hb, h.mx.below hb⟩
theorem txt_is (s : ByteArray) : txt (bL s) = s := by
  show (⟨s.data.toList.toArray⟩ : ByteArray) = s
  rw [Array.toArray_toList]
set_option maxHeartbeats 8000000 in
theorem mayStand_any (c : UInt8) (w : World) :
    Calls Tryd.prog 52 #[.int .u8 (c.toNat : Int)] w fun e w' => e = .returned (.bool (fitC c)) ∧ w' = w := by
  have E : Hid (fitC c = (decide (48 ≤ c.toNat ∧ c.toNat ≤ 57 ∨ 65 ≤ c.toNat ∧ c.toNat ≤ 90 ∨ 97 ≤ c.toNat ∧ c.toNat ≤ 122) || c == 45)) := rfl
  have Q : (c == 45) = decide (c.toNat = 45) := by
    rw [Bool.eq_iff_iff, beq_iff_eq, decide_eq_true_eq]
    exact ⟨fun h => by rw [h]; rfl, fun h => UInt8.toNat_inj.1 h⟩
  rw [Q] at E
  generalize fitC c = R at *
  generalize c.toNat = x at *
  clear Q
  have YES : Hid ((97 ≤ x ∧ x ≤ 122) ∨ (65 ≤ x ∧ x ≤ 90) ∨ (48 ≤ x ∧ x ≤ 57) ∨ x = 45 → true = R) := fun h => by
    rw [E.out]
    symm
    simp only [Bool.or_eq_true, decide_eq_true_eq]
    omega
  have NO : Hid (¬ ((97 ≤ x ∧ x ≤ 122) ∨ (65 ≤ x ∧ x ≤ 90) ∨ (48 ≤ x ∧ x ≤ 57) ∨ x = 45) → false = R) := fun h => by
    rw [E.out]
    symm
    rw [Bool.or_eq_false_iff]
    exact ⟨decide_eq_false (by omega), decide_eq_false (by omega)⟩
  clear E
  by_cases a1 : 97 ≤ x
  · have i1 : (97 : Int) ≤ (x : Int) := by omega
    have d1 : decide ((97 : Int) ≤ (x : Int)) = true := decide_eq_true i1
    by_cases a2 : x ≤ 122
    · have i2 : (x : Int) ≤ 122 := by omega
      have d2 : decide ((x : Int) ≤ 122) = true := decide_eq_true i2
      have RR := hide (YES.out (by omega))
      clear YES NO a1 a2
      go_enter Tryd.func52, Tryd.ntmps52
      go_wp2_with fail
      go_ret
      exact ⟨ret_bool RR.out, rfl⟩
    · have i2 : ¬ (x : Int) ≤ 122 := by omega
      have d2 : decide ((x : Int) ≤ 122) = false := decide_eq_false i2
      have i3 : (65 : Int) ≤ (x : Int) := by omega
      have i4 : ¬ (x : Int) ≤ 90 := by omega
      have i5 : (48 : Int) ≤ (x : Int) := by omega
      have i6 : ¬ (x : Int) ≤ 57 := by omega
      have i7 : ((x : Int) == 45) = false := by rw [beq_eq_false_iff_ne]; omega
      have d3 : decide ((65 : Int) ≤ (x : Int)) = true := decide_eq_true i3
      have d4 : decide ((x : Int) ≤ 90) = false := decide_eq_false i4
      have d5 : decide ((48 : Int) ≤ (x : Int)) = true := decide_eq_true i5
      have d6 : decide ((x : Int) ≤ 57) = false := decide_eq_false i6
      have RR := hide (NO.out (by omega))
      clear YES NO a1 a2
      go_enter Tryd.func52, Tryd.ntmps52
      go_wp2_with fail
      go_ret
      exact ⟨ret_bool RR.out, rfl⟩
  · have i1 : ¬ (97 : Int) ≤ (x : Int) := by omega
    have d1 : decide ((97 : Int) ≤ (x : Int)) = false := decide_eq_false i1
    by_cases a3 : 65 ≤ x
    · have i3 : (65 : Int) ≤ (x : Int) := by omega
      have d3 : decide ((65 : Int) ≤ (x : Int)) = true := decide_eq_true i3
      by_cases a4 : x ≤ 90
      · have i4 : (x : Int) ≤ 90 := by omega
        have d4 : decide ((x : Int) ≤ 90) = true := decide_eq_true i4
        have RR := hide (YES.out (by omega))
        clear YES NO a1 a3 a4
        go_enter Tryd.func52, Tryd.ntmps52
        go_wp2_with fail
        go_ret
        exact ⟨ret_bool RR.out, rfl⟩
      · have i4 : ¬ (x : Int) ≤ 90 := by omega
        have d4 : decide ((x : Int) ≤ 90) = false := decide_eq_false i4
        have i5 : (48 : Int) ≤ (x : Int) := by omega
        have i6 : ¬ (x : Int) ≤ 57 := by omega
        have d5 : decide ((48 : Int) ≤ (x : Int)) = true := decide_eq_true i5
        have d6 : decide ((x : Int) ≤ 57) = false := decide_eq_false i6
        have i7 : ((x : Int) == 45) = false := by rw [beq_eq_false_iff_ne]; omega
        have RR := hide (NO.out (by omega))
        clear YES NO a1 a3 a4
        go_enter Tryd.func52, Tryd.ntmps52
        go_wp2_with fail
        go_ret
        exact ⟨ret_bool RR.out, rfl⟩
    · have i3 : ¬ (65 : Int) ≤ (x : Int) := by omega
      have d3 : decide ((65 : Int) ≤ (x : Int)) = false := decide_eq_false i3
      by_cases a5 : 48 ≤ x
      · have i5 : (48 : Int) ≤ (x : Int) := by omega
        have d5 : decide ((48 : Int) ≤ (x : Int)) = true := decide_eq_true i5
        by_cases a6 : x ≤ 57
        · have i6 : (x : Int) ≤ 57 := by omega
          have d6 : decide ((x : Int) ≤ 57) = true := decide_eq_true i6
          have RR := hide (YES.out (by omega))
          clear YES NO a1 a3 a5 a6
          go_enter Tryd.func52, Tryd.ntmps52
          go_wp2_with fail
          go_ret
          exact ⟨ret_bool RR.out, rfl⟩
        · have i6 : ¬ (x : Int) ≤ 57 := by omega
          have d6 : decide ((x : Int) ≤ 57) = false := decide_eq_false i6
          have i7 : ((x : Int) == 45) = false := by rw [beq_eq_false_iff_ne]; omega
          have RR := hide (NO.out (by omega))
          clear YES NO a1 a3 a5 a6
          go_enter Tryd.func52, Tryd.ntmps52
          go_wp2_with fail
          go_ret
          exact ⟨ret_bool RR.out, rfl⟩
      · have i5 : ¬ (48 : Int) ≤ (x : Int) := by omega
        have d5 : decide ((48 : Int) ≤ (x : Int)) = false := decide_eq_false i5
        by_cases a7 : x = 45
        · have i7 : ((x : Int) == 45) = true := by rw [beq_iff_eq]; omega
          have RR := hide (YES.out (by omega))
          clear YES NO a1 a3 a5 a7
          go_enter Tryd.func52, Tryd.ntmps52
          go_wp2_with fail
          go_ret
          exact ⟨ret_bool RR.out, rfl⟩
        · have i7 : ((x : Int) == 45) = false := by rw [beq_eq_false_iff_ne]; omega
          have RR := hide (NO.out (by omega))
          clear YES NO a1 a3 a5 a7
          go_enter Tryd.func52, Tryd.ntmps52
          go_wp2_with fail
          go_ret
          exact ⟨ret_bool RR.out, rfl⟩
set_option maxHeartbeats 8000000 in
theorem ptFitW_any (b : ByteArray) (w : World) (hs : b.size ≤ 1099511627776) :
    Calls Tryd.prog 33 #[.string b] w fun e w' => e = .returned (.bool (fitL (bL b))) ∧ w' = w := by
  have LB := hide (len_bL b)
  have E : Hid (fitL (bL b) = ((bL b).all fitC && decide (0 < (bL b).length ∧ (bL b).length ≤ 70))) := rfl
  rw [LB.out] at E
  by_cases h0 : b.size = 0
  · have n1 : b.toList = [] := by rw [ByteArray.toList_eq]; exact List.eq_nil_of_length_eq_zero (by rw [← h0, ← LB.out])
    have n2 : b.toList.isEmpty = true := by rw [n1]; rfl
    rw [decide_eq_false (fun t => by omega), Bool.and_false] at E
    clear LB h0
    go_enter Tryd.func33, Tryd.ntmps33
    go_wp2_with fail
    go_ret
    exact ⟨ret_bool E.out.symm, rfl⟩
  · have n1 : ¬ b.toList = [] := by
      rw [ByteArray.toList_eq]; intro e
      have := LB.out
      have e : bL b = [] := e
      rw [e] at this
      exact h0 this.symm
    have n2 : b.toList.isEmpty = false := by
      cases g : b.toList.isEmpty with
      | false => rfl
      | true => exact absurd (List.isEmpty_iff.1 g) n1
    by_cases h7 : 70 < b.size
    · have d7 : decide ((70 : Int) < (b.size : Int)) = true := decide_eq_true (by omega)
      rw [decide_eq_false (fun t => by omega), Bool.and_false] at E
      clear LB h0 h7
      go_enter Tryd.func33, Tryd.ntmps33
      go_wp2_with fail
      go_ret
      exact ⟨ret_bool E.out.symm, rfl⟩
    · have d7 : decide ((70 : Int) < (b.size : Int)) = false := decide_eq_false (by omega)
      rw [decide_eq_true ⟨by omega, by omega⟩, Bool.and_true] at E
      go_enter Tryd.func33, Tryd.ntmps33
      go_wp2_with fail
      go_loop [13] (fun iv => ∃ k : Nat, k ≤ b.size ∧ iv = .int .i64 k ∧ Hid (((bL b).take k).all fitC = true)) (fun iv => b.size - (intOf iv).toNat)
      case atStart => exact ⟨0, Nat.zero_le _, rfl, rfl⟩
      case round =>
        obtain ⟨k, hk, rfl, HA⟩ := hrel
        by_cases g : k < b.size
        · have k1 : (k : Int) < (b.size : Int) := by omega
          have k0 : (0 : Int) ≤ (k : Int) := by omega
          have hl : k < (bL b).length := by rw [LB.out]; exact g
          have TK := hide (all_takeP fitC (bL b) hl)
          rw [at_bL g, HA.out, Bool.true_and] at TK
          have NO : Hid (fitC b[k] = false → fitL (bL b) = false) := fun t => by
            rw [E.out]
            exact List.all_eq_false.2 ⟨(bL b)[k], List.getElem_mem hl, by rw [at_bL g, t]; decide⟩
          have HM := hide (fun W => mayStand_any b[k] W)
          clear HA E LB
          cases p : fitC b[k] with
          | true =>
            rw [p] at HM TK
            clear NO p
            go_wp2_with fail
            refine (HM.out _).mono ?_
            rintro e w1 ⟨rfl, hu⟩
            obtain rfl := hu.symm
            go_wp2_with fail
            go_round
            case rel => exact ⟨k + 1, by omega, by go_num, TK⟩
            case measure => simp [intOf]; omega
          | false =>
            rw [p] at HM
            have RN := hide (NO.out p)
            clear NO p TK
            go_wp2_with fail
            refine (HM.out _).mono ?_
            rintro e w1 ⟨rfl, hu⟩
            obtain rfl := hu.symm
            go_wp2_with fail
            go_ret
            exact ⟨ret_bool RN.out.symm, rfl⟩
        · obtain rfl : k = b.size := by omega
          rw [List.take_of_length_le (by rw [LB.out]; omega)] at HA
          rw [HA.out] at E
          clear HA LB
          go_wp2_with fail
          go_ret
          exact ⟨ret_bool E.out.symm, rfl⟩
set_option maxHeartbeats 8000000 in
theorem toldType_any (s : ByteArray) (w : World) (hs : s.size ≤ 1099511627776) :
    Calls Tryd.prog 36 #[.string s] w fun e w' => e = .returned (.string (txt (typeL (bL s)))) ∧ w' = w := by
  have LB := hide (len_bL s)
  have EB : Hid ((bL s).any badT = true ∨ bL s = [] → txt (typeL (bL s)) = ⟨#[97, 112, 112, 108, 105, 99, 97, 116, 105, 111, 110, 47, 111, 99, 116, 101, 116, 45, 115, 116, 114, 101, 97, 109]⟩) := fun h => by unfold typeL; rw [if_pos h]; rfl
  have EG : Hid (¬ ((bL s).any badT = true ∨ bL s = []) → txt (typeL (bL s)) = s) := fun h => by unfold typeL; rw [if_neg h]; rfl
  by_cases h0 : s.size = 0
  · have n1 : s.toList = [] := by rw [ByteArray.toList_eq]; exact List.eq_nil_of_length_eq_zero (by rw [← h0, ← LB.out])
    have n2 : s.toList.isEmpty = true := by rw [n1]; rfl
    have R1 := hide (EB.out (.inr (List.eq_nil_of_length_eq_zero (by rw [LB.out]; exact h0))))
    clear EB EG LB h0
    go_enter Tryd.func36, Tryd.ntmps36
    go_wp2_with fail
    go_ret
    exact ⟨ret_txt R1.out.symm, rfl⟩
  · have n1 : ¬ s.toList = [] := by
      rw [ByteArray.toList_eq]; intro e
      have := LB.out
      have e : bL s = [] := e
      rw [e] at this
      exact h0 this.symm
    have n2 : s.toList.isEmpty = false := by
      cases g : s.toList.isEmpty with
      | false => rfl
      | true => exact absurd (List.isEmpty_iff.1 g) n1
    go_enter Tryd.func36, Tryd.ntmps36
    go_wp2_with fail
    go_loop [8] (fun iv => ∃ k : Nat, k ≤ s.size ∧ iv = .int .i64 k ∧ Hid (((bL s).take k).any badT = false)) (fun iv => s.size - (intOf iv).toNat)
    case atStart => exact ⟨0, Nat.zero_le _, rfl, rfl⟩
    case round =>
      obtain ⟨k, hk, rfl, HA⟩ := hrel
      by_cases g : k < s.size
      · have k1 : (k : Int) < (s.size : Int) := by omega
        have k0 : (0 : Int) ≤ (k : Int) := by omega
        have hl : k < (bL s).length := by rw [LB.out]; exact g
        have TK := hide (any_takeP badT (bL s) hl)
        rw [at_bL g, HA.out, Bool.false_or] at TK
        have YES : Hid (badT s[k] = true → txt (typeL (bL s)) = ⟨#[97, 112, 112, 108, 105, 99, 97, 116, 105, 111, 110, 47, 111, 99, 116, 101, 116, 45, 115, 116, 114, 101, 97, 109]⟩) := fun t => EB.out (.inl (List.any_eq_true.2 ⟨(bL s)[k], List.getElem_mem hl, by rw [at_bL g]; exact t⟩))
        have EC : Hid (badT s[k] = decide (s[k].toNat < 32 ∨ 126 < s[k].toNat)) := rfl
        clear HA EB EG LB
        by_cases q0 : s[k].toNat < 32
        · have d0 : decide ((s[k].toNat : Int) < 32) = true := decide_eq_true (by omega)
          have i0 : (s[k].toNat : Int) < 32 := by omega
          have R1 := hide (YES.out (by rw [EC.out]; exact decide_eq_true (.inl q0)))
          clear YES EC TK q0
          go_wp2_with fail
          go_ret
          exact ⟨ret_txt R1.out.symm, rfl⟩
        · have d0 : decide ((s[k].toNat : Int) < 32) = false := decide_eq_false (by omega)
          have i0 : ¬ (s[k].toNat : Int) < 32 := by omega
          by_cases q1 : 126 < s[k].toNat
          · have d1 : decide (126 < (s[k].toNat : Int)) = true := decide_eq_true (by omega)
            have i1 : 126 < (s[k].toNat : Int) := by omega
            have R1 := hide (YES.out (by rw [EC.out]; exact decide_eq_true (.inr q1)))
            clear YES EC TK q0 q1
            go_wp2_with fail
            go_ret
            exact ⟨ret_txt R1.out.symm, rfl⟩
          · have d1 : decide (126 < (s[k].toNat : Int)) = false := decide_eq_false (by omega)
            have i1 : ¬ 126 < (s[k].toNat : Int) := by omega
            rw [EC.out, decide_eq_false (fun t => t.elim q0 q1)] at TK
            clear YES EC q0 q1
            go_wp2_with fail
            go_round
            case rel => exact ⟨k + 1, by omega, by go_num, TK⟩
            case measure => simp [intOf]; omega
      · obtain rfl : k = s.size := by omega
        rw [List.take_of_length_le (by rw [LB.out]; omega)] at HA
        have R1 := hide (EG.out (fun t => by
          rcases t with t | t
          · rw [HA.out] at t; cases t
          · exact h0 (by rw [← LB.out, t]; rfl)))
        clear EB EG HA LB h0
        go_wp2_with fail
        go_ret
        exact ⟨ret_txt R1.out.symm, rfl⟩
theorem val_file {e : En} (h : e.file = true) : txt (valP e) = e.val := by
  unfold valP; rw [if_pos h]; exact txt_is _
theorem val_text {e : En} (h : e.file = false) : txt (valP e) = pairsS e.val := by
  unfold valP; rw [h]; rfl
set_option maxHeartbeats 8000000 in
theorem carried_any (e0 : En) (w : World) (hs : e0.val.size ≤ 1099511627776) :
    Calls Tryd.prog 37 #[.agg #[.string e0.name, .string e0.val, .bool e0.file, .string e0.fname, .string e0.typ]] w fun e w' => e = .returned (.string (txt (valP e0))) ∧ Below w.heap.size w w' := by
  have HP := hide (fun W => pairs_any e0.val W hs)
  have K := hide (Bk.new w [.string e0.name, .string e0.val, .bool e0.file, .string e0.fname, .string e0.typ] 34)
  have B0 : Hid (Below w.heap.size w (w.alloc (.cells #[.string e0.name, .string e0.val, .bool e0.file, .string e0.fname, .string e0.typ] 34))) := (Below.refl _ w).alloc (Nat.le_refl _) _
  have E1 := hide (fun h => val_file (e := e0) h)
  have E2 := hide (fun h => val_text (e := e0) h)
  generalize txt (valP e0) = RES at *
  generalize pairsS e0.val = p0 at *
  generalize e0.name = t0 at *
  generalize e0.val = t1 at *
  generalize e0.fname = t2 at *
  generalize e0.typ = t3 at *
  cases hf : e0.file with
  | true =>
    rw [hf] at K B0 E1 E2
    have R1 := hide (E1.out rfl)
    clear E1 E2
    have x2 := K.out.cell 2 rfl
    have x1 := K.out.cell 1 rfl
    rw [hf] at *
    clear hf
    go_enter Tryd.func37, Tryd.ntmps37
    go_wp2_with fail
    go_ret
    exact ⟨ret_txt R1.out.symm, B0.out⟩
  | false =>
    rw [hf] at K B0 E1 E2
    have R1 := hide (E2.out rfl)
    clear E1 E2
    have x2 := K.out.cell 2 rfl
    have x1 := K.out.cell 1 rfl
    clear hf
    go_enter Tryd.func37, Tryd.ntmps37
    go_wp2_with fail
    refine (HP.out _).mono ?_
    rintro e w1 ⟨rfl, b1⟩
    have B1 := hide (chain B0.out b1)
    clear b1
    go_wp2_with fail
    go_ret
    exact ⟨ret_txt R1.out.symm, B1.out⟩
end Go.Proofs.YtmnpnpmopbkabaaDoor

namespace Go.Proofs.YtmnpnpmopbkabaaDoor
open Go.RowKit
def PlTabs (w : World) : Prop := UrTabs w ∧ PtTabs w
theorem PlTabs.below {w w' : World} (h : PlTabs w) (hb : Below w.heap.size w w') : PlTabs w' := ⟨h.1.below hb, h.2.below hb⟩
end Go.Proofs.YtmnpnpmopbkabaaDoor

namespace Go.Proofs.YtmnpnpmopbkabaaDoor
open Go.RowKit
set_option maxRecDepth 100000
set_option maxHeartbeats 8000000 in
theorem plEncode_any (n : Nat) (v : Value) (l : List En) (w : World) (hv : FilesV w v l) (hn : n ≤ 1000000) (hl : EnsOK n l) (_hT : PlTabs w) :
    Calls Tryd.prog 8 #[v] w fun e w' => e = .returned (.string (txt (encN l))) ∧ Below w.heap.size w w' := by
  have ALB : Hid (Below w.heap.size w (w.alloc (.cells #[.pointer none, .slice none 0 0] 43))) := (Below.refl _ w).alloc (Nat.le_refl _) _
  have HP := hide (urPlainO_any n v l _ (hv.below ALB.out) (by omega) hl)
  have HBN := hide (HoldsK.new w)
  have szB : (w.alloc (.cells #[.pointer none, .slice none 0 0] 43)).heap.size = w.heap.size + 1 := by simp
  have PS := hide (plain_sizesN hl)
  have PE := hide (plain_rest (l := l))
  have PN : Hid ((plainU l).length ≤ 200) := by show _ ≤ _; unfold plainU; rw [List.length_map]; exact hl.len
  have PT := hide (fun k => enN_len PS.out PN.out k)
  have EE : Hid (txt (enN (plainU l) (plainU l).length) = txt (encN l)) := by show _ = _; unfold enN encN; rw [List.take_length]
  obtain ⟨pl, cl, rfl⟩ : ∃ p c, v = .slice p l.length c := by obtain ⟨p, c, e, _⟩ := hv; exact ⟨p, c, e⟩
  have p200 := PN.out
  have SZB := hide szB
  generalize plainU l = p at *
  generalize txt (encN l) = RES at *
  clear hv hl PN szB
  go_enter Tryd.func8, Tryd.ntmps8
  go_wp2_with fail
  refine HP.out.mono ?_
  rintro e wp ⟨vp, rfl, op, bp⟩
  obtain ⟨q, cq, rfl⟩ := op.form
  have PF : Hid (OwnR (w.heap.size + 1) wp (.slice q p.length cq) p) := by show OwnR _ _ _ _; rw [← SZB.out]; exact op
  have h1 := HBN.out.below bp
  have BP := hide (ALB.out.trans (bp.mono ALB.out.size))
  clear op bp HP HBN ALB SZB
  go_wp2_with fail
  go_loopw [9] (fun iv wr => ∃ k : Nat, k ≤ p.length ∧ iv = .int .i64 k ∧ HoldsK w.heap.size w.heap.size (enN p k) wr ∧ Hid (Below w.heap.size w wr) ∧ Hid (OthK w.heap.size wp wr)) (fun iv _ => p.length - (intOf iv).toNat)
  case atStart => exact ⟨0, Nat.zero_le _, rfl, h1, BP, OthK.refl _ _⟩
  case round =>
    rename World => wr
    obtain ⟨k, hk, rfl, HB, BW, KW⟩ := hrel
    clear BP h1
    by_cases g : k < p.length
    · have k1 : (k : Int) < (p.length : Int) := by omega
      have k0 : (0 : Int) ≤ (k : Int) := by omega
      obtain ⟨b, o, rfl, EA⟩ := (PF.out.oth KW.out (Nat.lt_succ_self _)).cellsAt k g
      have sz := PS.out _ (List.getElem_mem g)
      obtain ⟨pe1, pe2, pe3⟩ := PE.out _ (List.getElem_mem g)
      have L0 := PT.out k
      have a0 := EA.c0
      have a1 := EA.c1
      have a2 := EA.c2
      have a3 := EA.c3
      have a4 := EA.c4
      rw [pe1] at a2
      rw [pe2] at a3
      rw [pe3] at a4
      have EX : Hid (enN p (k + 1) = (((enN p k ++ bL p[k].name) ++ [61]) ++ bL p[k].val) ++ [13, 10]) := enN_next g
      clear EA pe1 pe2 pe3 PS PT PF EE PE
      obtain ⟨sz0, sz1⟩ := sz
      generalize enN p k = C at *
      generalize p[k].name = t0 at *
      generalize p[k].val = t1 at *
      have LC : C.length ≤ 1000000000 := by omega
      clear L0
      have AL0 : Hid (Below wr.heap.size wr (wr.alloc (.cells #[.string t0, .string t1, .bool false, .string ⟨#[]⟩, .string ⟨#[]⟩] 34))) := (Below.refl _ wr).alloc (Nat.le_refl _) _
      have K1 := hide (Bk.new wr [.string t0, .string t1, .bool false, .string ⟨#[]⟩, .string ⟨#[]⟩] 34)
      have HB1 := hide (HB.below AL0.out)
      have sw1 := Nat.le_trans BW.out.size AL0.out.size
      have BW1 := hide (BW.out.trans (AL0.out.mono BW.out.size))
      have KW1 := hide (KW.out.then AL0.out)
      have nb : wr.heap.size ≠ w.heap.size := by have := holdsK_lt HB; omega
      have tb := en_ty
      have sx : (⟨#[13, 10]⟩ : ByteArray).size = 2 := rfl
      have x0 := K1.out.cell 0 rfl
      clear AL0 HB BW KW
      go_wp2_with fail
      refine (writeStringK w.heap.size w.heap.size C t0 _ HB1.out (by omega) sw1).mono ?_
      rintro e w3 ⟨rfl, h3, b3, k3⟩
      have K3 := hide (K1.out.oth k3 nb tb)
      have m3 := Nat.le_trans sw1 b3.size
      have BW3 := hide (BW1.out.trans b3)
      have KW3 := hide (KW1.out.trans k3)
      clear b3 k3 K1 x0 HB1 BW1 KW1 sw1
      go_wp2_with fail
      refine (writeByteK w.heap.size w.heap.size _ 61 _ h3 (by simp only [List.length_append, Array.length_toList, ByteArray.size_data]; omega) m3).mono ?_
      rintro e w4 ⟨rfl, h4, b4, k4⟩
      have K4 := hide (K3.out.oth k4 nb tb)
      have m4 := Nat.le_trans m3 b4.size
      have BW4 := hide (BW3.out.trans b4)
      have KW4 := hide (KW3.out.trans k4)
      have x1 := K4.out.cell 1 rfl
      clear h3 b4 k4 K3 m3 BW3 KW3
      go_wp2_with fail
      refine (writeStringK w.heap.size w.heap.size _ t1 _ h4 (by simp only [List.length_append, List.length_cons, List.length_nil, Array.length_toList, ByteArray.size_data]; omega) m4).mono ?_
      rintro e w5 ⟨rfl, h5, b5, k5⟩
      have m5 := Nat.le_trans m4 b5.size
      have BW5 := hide (BW4.out.trans b5)
      have KW5 := hide (KW4.out.trans k5)
      clear h4 b5 k5 K4 x1 m4 BW4 KW4
      go_wp2_with fail
      refine (writeStringK w.heap.size w.heap.size _ ⟨#[13, 10]⟩ _ h5 (by simp only [List.length_append, List.length_cons, List.length_nil, Array.length_toList, ByteArray.size_data]; omega) m5).mono ?_
      rintro e w6 ⟨rfl, h6, b6, k6⟩
      have BW6 := hide (BW5.out.trans b6)
      have KW6 := hide (KW5.out.trans k6)
      have H6 : HoldsK w.heap.size w.heap.size (enN p (k + 1)) w6 := by rw [EX.out]; exact h6
      clear h5 b6 k6 m5 BW5 KW5 h6
      go_wp2_with fail
      go_roundw
      case rel => exact ⟨k + 1, by omega, by go_num, H6, BW6, KW6⟩
      case measure => simp [intOf]; omega
    · obtain rfl : k = p.length := by omega
      clear PF PS PT PE
      go_wp2_with fail
      refine (builderTextK _ _ _ _ HB BW.out.size).mono ?_
      rintro e w2 ⟨rfl, h2, b2, _⟩
      have B2 := BW.out.trans b2
      rw [EE.out]
      clear EE
      go_wp2_with fail
      go_ret
      exact ⟨rfl, B2⟩

end Go.Proofs.YtmnpnpmopbkabaaDoor
