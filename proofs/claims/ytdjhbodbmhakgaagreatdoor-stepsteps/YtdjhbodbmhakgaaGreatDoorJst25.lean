/- Joined texts. StepLaws1: Stage 12's wakes and long, and the laws StepBounds, StepSteps, walked: each returns true, and what lay in the world lies there still. Conditions: the tables that the program's road names; a row of attributes as it lies in the world. Shaped: The wrap of a row that lists variables, for a contract that wants the world's shape besides (that a variable of the library's own holds some number). No condition of its own. StepTabs: The tables of the road of layer 12, from the rows' own condition. No condition of its own. Both: The wrap of a row that lists variables, for a contract that wants the world's shape and the form's reach besides. No condition of its own. AttrOpen: An argument that is a node, or a row of attributes, opened: what it reads as lies behind its slices, each row of it takes fewer than 2^47 bytes, and so does each text. Condition: the form's own reach. -/
import Derived.Test.YtdjhbodbmhakgaaGreatDoorJst24
import Derived.Handed
import Derived.Shelf.Vars
import Derived.Test.YtdjhbodbmhakgaaGreatDoorRows
import Derived.Lib.LaidU8
import Derived.LaidMore
import Derived.Stop.LaidErr
import Derived.Test.YtdjhbodbmhakgaaGreatDoorJst11
import Derived.Deep.Slices
import Derived.ChangeSame
namespace Go.Proofs.YtdjhbodbmhakgaaGreatDoor
open Go.RowKit

theorem attrs_two (w : World) (a b c d : ByteArray) : AttrsV (w.alloc (.cells #[.string a, .string b, .string c, .string d] 40)) (.slice (some ⟨w.heap.size, 0, none⟩) 2 2) [(a, b), (c, d)] := by
  refine ⟨_, 2, rfl, .inr ⟨w.heap.size, 0, rfl, fun i h => ?_⟩⟩
  rcases (show i = 0 ∨ i = 1 by simp at h; omega) with rfl | rfl
  · exact ⟨by simp, by simp⟩
  · exact ⟨by simp, by simp⟩
theorem wake_flags : flagsK 8 [(⟨#[109, 105, 110]⟩, ⟨#[50, 48, 50, 48, 45, 48, 49, 45, 48, 49]⟩), (⟨#[115, 116, 101, 112]⟩, ⟨#[50]⟩)] (⟨#[50, 48, 50, 48, 45, 48, 49, 45, 48, 50]⟩ : ByteArray).data.toList = (false, false, true) := by decide +kernel
theorem wake_ok : AxOK [(⟨#[109, 105, 110]⟩, ⟨#[50, 48, 50, 48, 45, 48, 49, 45, 48, 49]⟩), (⟨#[115, 116, 101, 112]⟩, ⟨#[50]⟩)] := ⟨by decide, fun a q => by
  rcases List.mem_cons.1 q with e | e
  · rw [e]; decide
  · rw [List.mem_singleton.1 e]; decide⟩
set_option maxHeartbeats 4000000 in
set_option maxRecDepth 100000 in
theorem stWakes_any (w : World) (hT : StTabs w) :
    Calls Tryz.prog 8 #[] w fun e w' => e = .returned (.bool true) ∧ Below w.heap.size w w' := by
  have B0 : Hid (Below w.heap.size w (w.alloc (.cells #[.string ⟨#[109, 105, 110]⟩, .string ⟨#[50, 48, 50, 48, 45, 48, 49, 45, 48, 49]⟩, .string ⟨#[115, 116, 101, 112]⟩, .string ⟨#[50]⟩] 40))) := (Below.refl _ w).alloc (Nat.le_refl _) _
  have HF := hide (stFlags_any 8 _ _ _ (attrs_two w ⟨#[109, 105, 110]⟩ ⟨#[50, 48, 50, 48, 45, 48, 49, 45, 48, 49]⟩ ⟨#[115, 116, 101, 112]⟩ ⟨#[50]⟩) wake_ok ⟨#[50, 48, 50, 48, 45, 48, 49, 45, 48, 50]⟩ (by decide) (hT.below B0.out))
  rw [wake_flags, show flag3 (false, false, true) = .tuple #[.bool false, .bool false, .bool true] from rfl] at HF
  clear hT
  go_enter Tryz.func8, Tryz.ntmps8
  go_wp2_with fail
  refine HF.out.mono ?_
  rintro e w1 ⟨rfl, b1⟩
  go_wp2_with fail
  go_ret
  exact ⟨rfl, chain B0.out b1⟩

/-- Is anything longer than a statement takes? -/
def longB (ax : List (ByteArray × ByteArray)) (s : ByteArray) : Bool := decide (100 < ax.length) || (decide (8192 < s.size) || ax.any fun a => decide (8192 < a.2.size))
structure Short (ax : List (ByteArray × ByteArray)) (s : ByteArray) : Prop where
  ax : AxOK ax
  s : s.size ≤ 100000
theorem long_no {ax : List (ByteArray × ByteArray)} {s : ByteArray} (h : longB ax s = false) : Short ax s := by
  unfold longB at h
  rw [Bool.or_eq_false_iff, Bool.or_eq_false_iff, decide_eq_false_iff_not, decide_eq_false_iff_not, List.any_eq_false] at h
  refine ⟨⟨by omega, fun a q => ?_⟩, by omega⟩
  have := h.2.2 a q
  simp only [decide_eq_true_eq] at this
  omega
set_option maxHeartbeats 4000000 in
set_option maxRecDepth 100000 in
theorem stLong_any (v : Value) (ax : List (ByteArray × ByteArray)) (s : ByteArray) (w : World) (hv : AttrsV w v ax) (hl : ax.length ≤ 4398046511104) :
    Calls Tryz.prog 9 #[v, .string s] w fun e w' => e = .returned (.bool (longB ax s)) ∧ w' = w := by
  obtain ⟨p, c, rfl, hv⟩ := hv
  by_cases h1 : 100 < ax.length
  · have E : Hid (longB ax s = true) := by show _ = _; unfold longB; rw [decide_eq_true h1]; rfl
    have g1 : (100 : Int) < (ax.length : Int) := by omega
    clear hv h1
    go_enter Tryz.func9, Tryz.ntmps9
    go_wp2_with fail
    go_ret
    exact ⟨ret_bool E.out.symm, rfl⟩
  · have g1 : ¬ (100 : Int) < (ax.length : Int) := by omega
    have d1 : decide ((100 : Int) < (ax.length : Int)) = false := decide_eq_false g1
    by_cases h2 : 8192 < s.size
    · have E : Hid (longB ax s = true) := by show _ = _; unfold longB; rw [decide_eq_true h2, Bool.true_or, Bool.or_true]
      have g2 : (8192 : Int) < (s.size : Int) := by omega
      clear hv h1 h2
      go_enter Tryz.func9, Tryz.ntmps9
      go_wp2_with fail
      go_ret
      exact ⟨ret_bool E.out.symm, rfl⟩
    · have g2 : ¬ (8192 : Int) < (s.size : Int) := by omega
      have d2 : decide ((8192 : Int) < (s.size : Int)) = false := decide_eq_false g2
      have E : Hid (longB ax s = ax.any fun a => decide (8192 < a.2.size)) := by show _ = _; unfold longB; rw [decide_eq_false h1, decide_eq_false h2]; rfl
      have HV := hide hv
      clear hv h1 h2
      go_enter Tryz.func9, Tryz.ntmps9
      go_wp2_with fail
      go_loop [16] (fun iv => ∃ k : Nat, k ≤ ax.length ∧ iv = .int .i64 k ∧ Hid (∀ j (_ : j < ax.length), j < k → ax[j].2.size ≤ 8192)) (fun iv => ax.length - (intOf iv).toNat)
      case atStart => exact ⟨0, Nat.zero_le _, rfl, fun j _ q => by omega⟩
      case round =>
        obtain ⟨k, hk, rfl, hd⟩ := hrel
        by_cases h : k < ax.length
        · have i1 : (k : Int) < (ax.length : Int) := by omega
          have i0 : (0 : Int) ≤ (k : Int) := by omega
          obtain ⟨b, o, rfl, hc⟩ : ∃ b o, p = some ⟨b, o, none⟩ ∧ ∀ i (h : i < ax.length), w.cell? ⟨b, o + i * 2, none⟩ = some (.string ax[i].1) ∧ w.cell? ⟨b, o + i * 2 + 1, none⟩ = some (.string ax[i].2) := by
            rcases HV.out with t | t
            · rw [t] at h; simp at h
            · exact t
          have x1 := (hc k h).2
          clear hc HV
          by_cases q : 8192 < ax[k].2.size
          · have q1 : (8192 : Int) < (ax[k].2.size : Int) := by omega
            have E2 : Hid (longB ax s = true) := by
              show _ = _
              rw [E.out, List.any_eq_true]
              exact ⟨_, List.getElem_mem h, decide_eq_true q⟩
            clear q hd
            generalize ax[k].2 = t at *
            go_wp2_with fail
            go_ret
            exact ⟨ret_bool E2.out.symm, rfl⟩
          · have q1 : ¬ (8192 : Int) < (ax[k].2.size : Int) := by omega
            have ND : Hid (∀ j (_ : j < ax.length), j < k + 1 → ax[j].2.size ≤ 8192) := by
              intro j hj r
              rcases Nat.lt_or_ge j k with t | t
              · exact hd.out j hj t
              · obtain rfl : j = k := by omega
                omega
            clear q hd
            generalize ax[k].2 = t at *
            go_wp2_with fail
            go_round
            case rel => exact ⟨k + 1, by omega, by go_num, ND⟩
            case measure => simp [intOf]; omega
        · obtain rfl : k = ax.length := by omega
          have E2 : Hid (longB ax s = false) := by
            show _ = _
            rw [E.out, List.any_eq_false]
            intro a ha
            obtain ⟨j, hj, rfl⟩ := List.getElem_of_mem ha
            have := hd.out j hj hj
            simp only [decide_eq_true_eq]
            omega
          clear hd h
          go_wp2_with fail
          go_ret
          exact ⟨ret_bool E2.out.symm, rfl⟩

set_option maxHeartbeats 4000000 in
set_option maxRecDepth 100000 in
theorem stepBounds_walk (k : Int) (v : Value) (ax : List (ByteArray × ByteArray)) (w : World) (hv : AttrsV w v ax) (hl : ax.length ≤ 4398046511104) (hT : StTabs w) :
    Calls Tryz.prog 4 #[.int .i64 k, v] w fun e w' => e = .returned (.bool true) ∧ Below w.heap.size w w' := by
  have HW := hide (stWakes_any w hT)
  have HG := hide (fun W (hb : Below w.heap.size w W) => stLong_any v ax ⟨#[]⟩ W (hv.below hb) hl)
  have HT := hide hT
  have HV := hide hv
  obtain ⟨pp, cc, ev, _⟩ := hv
  clear hT
  cases q : longB ax ⟨#[]⟩ with
  | true =>
    rw [q] at HG
    clear q HV
    subst ev
    go_enter Tryz.func4, Tryz.ntmps4
    go_wp2_with fail
    refine HW.out.mono ?_
    rintro e w1 ⟨rfl, b1⟩
    go_wp2_with fail
    refine (HG.out _ b1).mono ?_
    rintro e w2 ⟨rfl, hw2⟩
    obtain rfl : w1 = w2 := hw2.symm
    go_wp2_with fail
    go_ret
    exact ⟨rfl, b1⟩
  | false =>
    rw [q] at HG
    have S := long_no q
    clear q
    have H1 := hide (fun W (hb : Below w.heap.size w W) => stLeast_any k v ax W (HV.out.below hb) S.ax (HT.out.below hb))
    have H2 := hide (fun W (hb : Below w.heap.size w W) => refLeastK_any k v ax W (HV.out.below hb) S.ax)
    have H3 := hide (fun W (hb : Below w.heap.size w W) => stMost_any k v ax W (HV.out.below hb) S.ax (HT.out.below hb))
    have H4 := hide (fun W (hb : Below w.heap.size w W) => refMostK_any k v ax W (HV.out.below hb) S.ax)
    generalize leastK k ax = r at *
    generalize mostK k ax = q at *
    unfold optV at *
    generalize optI r = r1 at *
    generalize r.isSome = r2 at *
    generalize optI q = q1 at *
    generalize q.isSome = q2 at *
    clear S
    subst ev
    go_enter Tryz.func4, Tryz.ntmps4
    go_wp2_with fail
    refine HW.out.mono ?_
    rintro e w1 ⟨rfl, b1⟩
    go_wp2_with fail
    refine (HG.out _ b1).mono ?_
    rintro e w2 ⟨rfl, hw2⟩
    obtain rfl : w1 = w2 := hw2.symm
    have B1 := hide b1
    clear b1
    go_wp2_with fail
    refine (H1.out _ B1.out).mono ?_
    rintro e w2' ⟨rfl, b2⟩
    have B2 := hide (chain B1.out b2)
    clear b2 B1
    go_wp2_with fail
    refine (H2.out _ B2.out).mono ?_
    rintro e w3' ⟨rfl, b3⟩
    have B3 := hide (chain B2.out b3)
    clear b3 B2
    go_wp2_with fail
    refine (H3.out _ B3.out).mono ?_
    rintro e w4' ⟨rfl, b4⟩
    have B4 := hide (chain B3.out b4)
    clear b4 B3
    go_wp2_with fail
    refine (H4.out _ B4.out).mono ?_
    rintro e w5' ⟨rfl, b5⟩
    have B5 := hide (chain B4.out b5)
    clear b5 B4
    go_wp2_with fail
    go_ret
    exact ⟨rfl, B5.out⟩

set_option maxHeartbeats 4000000 in
set_option maxRecDepth 100000 in
theorem stepSteps_walk (k : Int) (v : Value) (ax : List (ByteArray × ByteArray)) (w : World) (hv : AttrsV w v ax) (hl : ax.length ≤ 4398046511104) (hT : StTabs w) :
    Calls Tryz.prog 5 #[.int .i64 k, v] w fun e w' => e = .returned (.bool true) ∧ Below w.heap.size w w' := by
  have HW := hide (stWakes_any w hT)
  have HG := hide (fun W (hb : Below w.heap.size w W) => stLong_any v ax ⟨#[]⟩ W (hv.below hb) hl)
  have HT := hide hT
  have HV := hide hv
  obtain ⟨pp, cc, ev, _⟩ := hv
  clear hT
  cases q : longB ax ⟨#[]⟩ with
  | true =>
    rw [q] at HG
    clear q HV
    subst ev
    go_enter Tryz.func5, Tryz.ntmps5
    go_wp2_with fail
    refine HW.out.mono ?_
    rintro e w1 ⟨rfl, b1⟩
    go_wp2_with fail
    refine (HG.out _ b1).mono ?_
    rintro e w2 ⟨rfl, hw2⟩
    obtain rfl : w1 = w2 := hw2.symm
    go_wp2_with fail
    go_ret
    exact ⟨rfl, b1⟩
  | false =>
    rw [q] at HG
    have S := long_no q
    clear q
    have H1 := hide (fun W (hb : Below w.heap.size w W) => stStep_any k v ax W (HV.out.below hb) S.ax (HT.out.below hb))
    have H2 := hide (fun W (hb : Below w.heap.size w W) => refStepK_any k v ax W (HV.out.below hb) S.ax)
    have H3 := hide (fun W (hb : Below w.heap.size w W) => stBase_any k v ax W (HV.out.below hb) S.ax (HT.out.below hb))
    have H4 := hide (fun W (hb : Below w.heap.size w W) => refBaseK_any k v ax W (HV.out.below hb) S.ax)
    have PR := hide (fun b => step_range k ax (b := b))
    generalize baseK k ax = bs at *
    have CS : (∃ st, Hid (stepK k ax = some st) ∧ 0 < st) ∨ Hid (stepK k ax = none) := by
      cases h : stepK k ax with
      | none => exact .inr rfl
      | some st => exact .inl ⟨st, rfl, by have := PR.out st h; omega⟩
    clear S PR
    subst ev
    go_enter Tryz.func5, Tryz.ntmps5
    go_wp2_with fail
    refine HW.out.mono ?_
    rintro e w1 ⟨rfl, b1⟩
    go_wp2_with fail
    refine (HG.out _ b1).mono ?_
    rintro e w2 ⟨rfl, hw2⟩
    obtain rfl : w1 = w2 := hw2.symm
    have B1 := hide b1
    clear b1
    rcases CS with ⟨st, hst, pos⟩ | hst
    · rw [hst.out, opt_some] at H1 H2
      clear hst
      go_wp2_with fail
      refine (H1.out _ B1.out).mono ?_
      rintro e w2' ⟨rfl, b2⟩
      have B2 := hide (chain B1.out b2)
      clear b2 B1
      go_wp2_with fail
      refine (H2.out _ B2.out).mono ?_
      rintro e w3' ⟨rfl, b3⟩
      have B3 := hide (chain B2.out b3)
      clear b3 B2
      go_wp2_with fail
      refine (H3.out _ B3.out).mono ?_
      rintro e w4' ⟨rfl, b4⟩
      have B4 := hide (chain B3.out b4)
      clear b4 B3
      go_wp2_with fail
      refine (H4.out _ B4.out).mono ?_
      rintro e w5' ⟨rfl, b5⟩
      have B5 := hide (chain B4.out b5)
      clear b5 B4
      go_wp2_with fail
      go_ret
      exact ⟨rfl, B5.out⟩
    · rw [hst.out, opt_none] at H1 H2
      clear hst
      go_wp2_with fail
      refine (H1.out _ B1.out).mono ?_
      rintro e w2' ⟨rfl, b2⟩
      have B2 := hide (chain B1.out b2)
      clear b2 B1
      go_wp2_with fail
      refine (H2.out _ B2.out).mono ?_
      rintro e w3' ⟨rfl, b3⟩
      have B3 := hide (chain B2.out b3)
      clear b3 B2
      go_wp2_with fail
      refine (H3.out _ B3.out).mono ?_
      rintro e w4' ⟨rfl, b4⟩
      have B4 := hide (chain B3.out b4)
      clear b4 B3
      go_wp2_with fail
      refine (H4.out _ B4.out).mono ?_
      rintro e w5' ⟨rfl, b5⟩
      have B5 := hide (chain B4.out b5)
      clear b5 B4
      go_wp2_with fail
      go_ret
      exact ⟨rfl, B5.out⟩

end Go.Proofs.YtdjhbodbmhakgaaGreatDoor

namespace Go.Proofs.YtdjhbodbmhakgaaGreatDoor
open Go

theorem handed_shaped {H : Type} {enc : TypeId × Value → H} {C : Checked} {os : Os} {f : FuncId} {fn : Func} {s : ChangeSpec} {conds : List PathCond} {X : World → Array Value → Prop}
    (hX : ∀ (u v : World) (xs : Array Value), u.heap = v.heap → X u xs → X v xs) (own : ownKnob C.prog.godebug = none) (started : os.Started) (noInit : C.prog.inits.idxOf? f = none) (hfn : C.prog.funcs[f]? = some fn)
    (seen : ∃ (w : World) (tape : Tape) (i : Input), w.os = os ∧ (w.forCall tape i).Shaped C.prog ∧ i.vars = [] ∧ Input.okWide C.prog (w.forCall tape i) .any w.heap.size f i ∧
      ((s.pre enc C.prog fn conds false (w.forCall tape i).memory i.args ∧ X (w.forCall tape i).memory i.args) ∧ sizedMet enc C.prog fn (OpenSpec.ofChange s) false (w.forCall tape i).memory i.args) ∧ ({} : Assume).holds C.prog (lone (Frame.enter C.prog f i.args .normal) [] (w.forCall tape i)))
    (call : ∀ (W : World) (base : Nat) (xs : Array Value) (ds gs : List (DataW H)) (before : List MemPlace),
      (∀ (j : Nat) t v, fn.params[j]? = some t → xs[j]? = some v → Value.okWide C.prog W .any base t v) → DataW.Whole enc C.prog fn.params.toList s.vars false W xs.toList ds gs before → X W xs → W.ShapedOpen C.prog →
      Calls C.prog f xs W fun e W' => ∃ v, e = .returned v ∧ s.post enc C.prog fn false true false false W xs v W') :
    ReturnsInHanded {} C os f .any (fun w xs => (s.pre enc C.prog fn conds false w xs ∧ X w xs) ∧ sizedMet enc C.prog fn (OpenSpec.ofChange s) false w xs) (s.post enc C.prog fn false true false false) := by
  refine returnsInHanded_of_calls own started noInit seen fun w tape i _ shape _ ok pre _ => ?_
  obtain ⟨_, _, _, fn2, found, _, _, _, _, vals⟩ := ok
  cases (found.symm.trans hfn : some fn2 = some fn)
  obtain ⟨⟨⟨ds, gs, before, whole, _⟩, laid⟩, _⟩ := pre
  have whole2 := DataW.Whole.of_heap (w' := w.forCall tape i) (by rfl) whole
  refine (call (w.forCall tape i) w.heap.size i.args ds gs before vals whole2 (hX _ _ _ (by rfl) laid) shape).mono ?_
  rintro e W' ⟨v, rfl, post⟩
  exact ChangeSpec.post_blind post

theorem max_of {W : World} (h : W.ShapedOpen Tryz.prog) : ∃ m, W.cell? ⟨2, 0, none⟩ = some (.int .i64 m) :=
  cell_of_shapedOpen_int (P := Tryz.prog) (g := 2) (t := 3) (zero := #[.int .i64 0]) h (of_decide_eq_true (by kernel_rfl)) (by kernel_rfl) rfl (by kernel_rfl) (by kernel_rfl) Tryz.underlying3

end Go.Proofs.YtdjhbodbmhakgaaGreatDoor

namespace Go.Proofs.YtdjhbodbmhakgaaGreatDoor
open Go.RowKit

theorem tens_eq : (Rows.laid_internal_strconv_uint64pow10 : DataW Unit) = Lib.tabData .u64 Lib.pow10Tab := by kernel_rfl
theorem tens_of {W : World} (h : Lib.VarReads Tryz.prog W "internal/strconv.uint64pow10" Rows.laid_internal_strconv_uint64pow10) : Tens W := by
  rw [tens_eq] at h
  obtain ⟨g, t, cs, fuel, p, hg, hty, hvar, hd⟩ := h
  have e1 : g = 3 := Option.some.inj (hg.symm.trans (by kernel_rfl))
  subst e1
  have e2 : t = 168 := Option.some.inj (hty.symm.trans (by kernel_rfl))
  subst e2
  show W.var? Tryz.prog _ = _
  rw [hvar, ← Lib.cells_of_tab (n := 20) Tryz.underlying168 Tryz.underlying82 (by kernel_rfl) (by kernel_rfl) hd]

theorem err_star : "*" ++ "errors.errorString" = "*errors.errorString" := by decide
theorem err_row (u : TypeId) (h : Tryz.prog.typeName? 3 u = some "*errors.errorString") : u = 194 :=
  typeName_ptr_named (nm := "errors.errorString") (by rw [err_star]; kernel_rfl) (by kernel_rfl) (by decide) u (by rw [err_star]; exact h)
/-- An error that the row lists. -/
theorem err_of {n : String} {g : Nat} {text : List UInt8} {r : List (String × DataW Unit)} {W : World} (hL : laidMet Tryz.prog ((n, .iface "*errors.errorString" (.ptr (.agg [.lit (.string text)]))) :: r) W)
    (hg : Tryz.prog.globalNamed n = some g) (ht : (Tryz.prog.globals[g]?).map (·.type) = some 113) : ErrAt g W := by
  obtain ⟨a, s, hv, -, -, -⟩ := laid_sentinel hL hg ht Tryz.underlying113 err_row Tryz.underlying194 Tryz.underlying196 rfl rfl Tryz.underlying9 (by kernel_rfl) (by kernel_rfl)
  exact ⟨_, by have h0 := World.var?_cell hg hv 0; simpa using h0, .inr ⟨_, _, rfl⟩⟩
def unitL : List (Int × Int × Int) := [(1, 86400000, 86400000), (2, 1, 1), (3, 604800000, 604800000), (4, 1000, 60000), (5, 1000, 60000), (0, 1000000, 1000000), (0, 1000000, 1000000)]
theorem units_eq : (Rows.laid_counterfoil_step_units : DataW Unit) = .agg (unitL.map fun u => .agg [.lit (.int .i64 u.1), .lit (.int .i64 u.2.1), .lit (.int .i64 u.2.2)]) := by kernel_rfl
theorem unit_row (k : Nat) (hk : k < 7) : unitL[k]? = some (momK (k + 8), scaleK (k + 8), defK (k + 8)) := by
  match k, hk with
  | 0, _ => rfl
  | 1, _ => rfl
  | 2, _ => rfl
  | 3, _ => rfl
  | 4, _ => rfl
  | 5, _ => rfl
  | 6, _ => rfl
theorem one_cell {cs : List Value} {b o : Nat} {u : Value} (h : (((cs.drop b).take 3).drop o).take 1 = [u]) : cs[b + o]? = some u := by
  have e := congrArg (·[0]?) h
  have e' : ((((cs.drop b).take 3).drop o).take 1)[0]? = some u := e
  rw [List.getElem?_take, if_pos (by decide), List.getElem?_drop, List.getElem?_take] at e'
  split at e'
  · rw [List.getElem?_drop, Nat.add_zero] at e'; exact e'
  · cases e'
theorem cellsU : Tryz.prog.cellsOf 42 = 3 := by kernel_rfl
theorem cellsI1 : Tryz.prog.cellsOf 3 = 1 := by kernel_rfl
theorem cellsL1 : Tryz.prog.cellsOf 2 = 1 := by kernel_rfl
theorem units_of {w : World} (h : Lib.VarReads Tryz.prog w "counterfoil/step.units" Rows.laid_counterfoil_step_units) : Units w := by
  rw [units_eq] at h
  obtain ⟨g, t, cs, fuel, p, hg, hty, hvar, hd⟩ := h
  have e1 : g = 0 := Option.some.inj (hg.symm.trans (by kernel_rfl))
  subst e1
  have e2 : t = 68 := Option.some.inj (hty.symm.trans (by kernel_rfl))
  subst e2
  intro k hk
  obtain ⟨fuel', d, q, hdi, hx⟩ := Lib.array_elem Tryz.underlying68 hd k hk
  rw [cellsU] at hx
  obtain ⟨xs, n, _, ex, hl, hlen, hf⟩ := DataW.trod_struct Tryz.underlying42 hx
  match xs, hlen with
  | [y0, y1, y2], _ =>
    have f0 := hf 0 _ rfl
    have f1 := hf 1 _ rfl
    have f2 := hf 2 _ rfl
    obtain ⟨z0, c0, r0, _⟩ := DataW.trod_int Tryz.underlying3 f0
    obtain ⟨z1, c1, r1, _⟩ := DataW.trod_int Tryz.underlying2 f1
    obtain ⟨z2, c2, r2, _⟩ := DataW.trod_int Tryz.underlying2 f2
    subst r0 r1 r2
    have ed : d = .agg [.lit (.int .i64 z0), .lit (.int .i64 z1), .lit (.int .i64 z2)] := congrArg Prod.fst ex
    rw [ed, List.getElem?_map, unit_row k hk] at hdi
    simp only [Option.map_some, Option.some.injEq, DataW.agg.injEq, List.cons.injEq, DataW.lit.injEq, Lit.int.injEq, true_and, and_true] at hdi
    obtain ⟨h0, h1, h2⟩ := hdi
    replace c0 : (((cs.toList.drop (k * 3)).take 3).drop 0).take (Tryz.prog.cellsOf 3) = [.int .i64 z0] := c0
    replace c1 : (((cs.toList.drop (k * 3)).take 3).drop 1).take (Tryz.prog.cellsOf 2) = [.int .i64 z1] := c1
    replace c2 : (((cs.toList.drop (k * 3)).take 3).drop 2).take (Tryz.prog.cellsOf 2) = [.int .i64 z2] := c2
    rw [cellsI1] at c0
    rw [cellsL1] at c1 c2
    refine ⟨?_, ?_, ?_⟩
    · rw [World.var?_cell hg hvar, h0, ← Array.getElem?_toList]; exact one_cell (o := 0) c0
    · rw [World.var?_cell hg hvar, h1, ← Array.getElem?_toList]; exact one_cell (o := 1) c1
    · rw [World.var?_cell hg hvar, h2, ← Array.getElem?_toList]; exact one_cell (o := 2) c2
/-- What the rows of layer 12 list. -/
def stepLaid : List (String × DataW Unit) := [("math/bits.deBruijn32tab", Rows.laid_math_bits_deBruijn32tab), ("math/bits.deBruijn64tab", Rows.laid_math_bits_deBruijn64tab), ("internal/strconv.uint64pow10", Rows.laid_internal_strconv_uint64pow10), ("unicode/utf8.acceptRanges", Rows.laid_unicode_utf8_acceptRanges), ("strconv.ErrRange", Rows.laid_strconv_ErrRange), ("strconv.ErrSyntax", Rows.laid_strconv_ErrSyntax), ("counterfoil/days.lengths", Rows.laid_counterfoil_days_lengths), ("counterfoil/step.units", Rows.laid_counterfoil_step_units), ("unicode/utf8.first", Rows.laid_unicode_utf8_first)]
theorem stTabs_at {W : World} (hL : laidMet Tryz.prog stepLaid W) (hsh : W.ShapedOpen Tryz.prog) : StTabs W := by
  have h4 : laidMet Tryz.prog _ W := laidMet.tail (laidMet.tail (laidMet.tail (laidMet.tail hL)))
  refine ⟨⟨⟨⟨err_of (laidMet.tail h4) (by kernel_rfl) (by kernel_rfl), err_of h4 (by kernel_rfl) (by kernel_rfl)⟩, ?_⟩, ?_⟩, max_of hsh, ?_⟩
  · exact lens_of (Lib.laidMet.reads hL (.tail _ (.tail _ (.tail _ (.tail _ (.tail _ (.tail _ (.head _))))))))
  · exact tens_of (Lib.laidMet.reads hL (.tail _ (.tail _ (.head _))))
  · exact units_of (Lib.laidMet.reads hL (.tail _ (.tail _ (.tail _ (.tail _ (.tail _ (.tail _ (.tail _ (.head _)))))))))

end Go.Proofs.YtdjhbodbmhakgaaGreatDoor

namespace Go.Proofs.YtdjhbodbmhakgaaGreatDoor
open Go

theorem handed_both {H : Type} {enc : TypeId × Value → H} {C : Checked} {os : Os} {f : FuncId} {fn : Func} {s : ChangeSpec} {conds : List PathCond} {X : World → Array Value → Prop}
    (hX : ∀ (u v : World) (xs : Array Value), u.heap = v.heap → X u xs → X v xs) (own : ownKnob C.prog.godebug = none) (started : os.Started) (noInit : C.prog.inits.idxOf? f = none) (hfn : C.prog.funcs[f]? = some fn)
    (seen : ∃ (w : World) (tape : Tape) (i : Input), w.os = os ∧ (w.forCall tape i).Shaped C.prog ∧ i.vars = [] ∧ Input.okWide C.prog (w.forCall tape i) .any w.heap.size f i ∧
      ((s.pre enc C.prog fn conds false (w.forCall tape i).memory i.args ∧ X (w.forCall tape i).memory i.args) ∧ sizedMet enc C.prog fn (OpenSpec.ofChange s) false (w.forCall tape i).memory i.args) ∧ ({} : Assume).holds C.prog (lone (Frame.enter C.prog f i.args .normal) [] (w.forCall tape i)))
    (call : ∀ (W : World) (base : Nat) (xs : Array Value) (ds gs : List (DataW H)) (before : List MemPlace),
      (∀ (j : Nat) t v, fn.params[j]? = some t → xs[j]? = some v → Value.okWide C.prog W .any base t v) → DataW.Whole enc C.prog fn.params.toList s.vars false W xs.toList ds gs before → (DataW.weightsEach C.prog (fn.params.toList ++ s.plain.varTypes C.prog) (ds ++ gs)).all (· ≤ reachBytes) = true → X W xs → W.ShapedOpen C.prog →
      Calls C.prog f xs W fun e W' => ∃ v, e = .returned v ∧ s.post enc C.prog fn false true false false W xs v W') :
    ReturnsInHanded {} C os f .any (fun w xs => (s.pre enc C.prog fn conds false w xs ∧ X w xs) ∧ sizedMet enc C.prog fn (OpenSpec.ofChange s) false w xs) (s.post enc C.prog fn false true false false) := by
  refine returnsInHanded_of_calls own started noInit seen fun w tape i _ shape _ ok pre _ => ?_
  obtain ⟨_, _, _, fn2, found, _, _, _, _, vals⟩ := ok
  cases (found.symm.trans hfn : some fn2 = some fn)
  obtain ⟨⟨⟨ds, gs, before, whole, _⟩, laid⟩, hz⟩ := pre
  have whole2 := DataW.Whole.of_heap (w' := w.forCall tape i) (by rfl) whole
  refine (call (w.forCall tape i) w.heap.size i.args ds gs before vals whole2 (hz.weights whole) (hX _ _ _ (by rfl) laid) shape).mono ?_
  rintro e W' ⟨v, rfl, post⟩
  exact ChangeSpec.post_blind post
theorem reach_first {H : Type} {P : Program} {t : TypeId} {ts : List TypeId} {d : DataW H} {ds : List (DataW H)} (h : (DataW.weightsEach P (t :: ts) (d :: ds)).all (· ≤ reachBytes) = true) : (d.weights P t).all (· ≤ reachBytes) = true := by
  simp only [DataW.weightsEach, List.all_append, Bool.and_eq_true] at h
  exact h.1
theorem reach_rest {H : Type} {P : Program} {t : TypeId} {ts : List TypeId} {d : DataW H} {ds : List (DataW H)} (h : (DataW.weightsEach P (t :: ts) (d :: ds)).all (· ≤ reachBytes) = true) : (DataW.weightsEach P ts ds).all (· ≤ reachBytes) = true := by
  simp only [DataW.weightsEach, List.all_append, Bool.and_eq_true] at h
  exact h.2
theorem reach_text {H : Type} {P : Program} {t : TypeId} {s : ByteArray} (h : ((.lit (.string s.data.toList) : DataW H).weights P t).all (· ≤ reachBytes) = true) : s.size ≤ reachBytes := by
  simp only [DataW.weights, List.all_cons, List.all_nil, Bool.and_true, decide_eq_true_eq, Array.length_toList] at h
  exact h

end Go.Proofs.YtdjhbodbmhakgaaGreatDoor

namespace Go.Proofs.YtdjhbodbmhakgaaGreatDoor
open Go.RowKit Go.ChangeShapes Go.WideShapes Go.Deep

theorem all_weights {H : Type} {P : Program} {e : TypeId} {p : Nat → Bool} : ∀ {l : List (DataW H)}, (DataW.weightsAll P e l).all p = true → ∀ {d}, d ∈ l → (d.weights P e).all p = true
  | [], _, _, hd => by cases hd
  | x :: l, h, d, hd => by
    have h : ((x.weights P e ++ DataW.weightsAll P e l).all p) = true := by simpa only [DataW.weightsAll] using h
    rw [List.all_append, Bool.and_eq_true] at h
    rcases List.mem_cons.1 hd with q | q
    · rw [q]; exact h.1
    · exact all_weights h.2 q
theorem addr_none {w : World} {a : Addr} {v : Value} (h : w.cell? a = some v) : a.spot = none := by
  unfold World.cell? at h
  split at h
  · split at h
    · cases h
    · rename_i q; simpa using q
  · cases h
theorem add_plain {a : Addr} (h : a.spot = none) (i : Nat) : a.add i = ⟨a.block, a.off + i, none⟩ := by
  unfold Addr.add
  split
  · rename_i q; subst q; cases a; simp_all
  · rfl
theorem cellsOfA : Tryz.prog.cellsOf 40 = 2 := by kernel_rfl
theorem cellsOfS : Tryz.prog.cellsOf 9 = 1 := by kernel_rfl
theorem cellsOfAs : Tryz.prog.cellsOf 29 = 1 := by kernel_rfl
theorem bytesOfA : Tryz.prog.bytesOf 40 = 32 := by kernel_rfl
section
variable {H : Type} {enc : TypeId × Value → H} {w : World}
abbrev inReach (l : List Nat) : Prop := l.all (· ≤ reachBytes) = true
theorem addr_eta {a : Addr} (h : a.spot = none) : (some a : Option Addr) = some ⟨a.block, a.off, none⟩ := by cases a with | mk b o s => have h : s = none := h; rw [h]
theorem reach_slice {P : Program} {t e : TypeId} {els sp : List (DataW H)} (ht : P.underlying t = some (.slice e)) (h : inReach ((DataW.slice els sp).weights P t)) : (els.length + sp.length) * P.bytesOf e ≤ reachBytes ∧ inReach (DataW.weightsAll P e els) := by
  have h : inReach ((els.length + sp.length) * P.bytesOf e :: (DataW.weightsAll P e els ++ DataW.weightsAll P e sp)) := by simpa only [DataW.weights, ht] using h
  rw [inReach, List.all_cons, Bool.and_eq_true, List.all_append, Bool.and_eq_true] at h
  exact ⟨of_decide_eq_true h.1, h.2.1⟩
theorem reach_two {P : Program} {t : TypeId} {f0 f1 : Field} {x y : List UInt8} (ht : P.underlying t = some (.struct #[f0, f1])) (h : inReach ((DataW.agg [.lit (.string x), .lit (.string y)] : DataW H).weights P t)) : x.length ≤ reachBytes ∧ y.length ≤ reachBytes := by
  have h : inReach (DataW.weightsEach P [f0.type, f1.type] [(.lit (.string x) : DataW H), .lit (.string y)]) := by simpa only [DataW.weights, ht, List.map_cons, List.map_nil] using h
  have h : inReach ([x.length] ++ ([y.length] ++ [])) := h
  simp only [inReach, List.cons_append, List.nil_append, List.all_cons, List.all_nil, Bool.and_true, Bool.and_eq_true, decide_eq_true_eq] at h
  exact h
set_option maxRecDepth 100000 in
theorem open_attr {fuel : Nat} {cs : List Value} {x : DataW H × List MemPlace} (h : DataW.trod enc Tryz.prog w 0 (fun _ => true) true fuel 40 cs = some x) (hr : inReach (x.1.weights Tryz.prog 40)) :
    ∃ s t : ByteArray, cs = [.string s, .string t] ∧ s.size ≤ reachBytes ∧ t.size ≤ reachBytes := by
  obtain ⟨y0, y1, n, rfl, hl, h0, h1⟩ := trod_struct2 Tryz.underlying40 h
  rw [cellsOfA] at hl
  match cs, hl with
  | [c0, c1], _ =>
    rw [cellsOfS] at h0 h1
    obtain ⟨s, e, rfl, _⟩ := DataW.trod_string Tryz.underlying9 h0
    obtain ⟨t, e', rfl, _⟩ := DataW.trod_string Tryz.underlying9 h1
    cases e
    cases e'
    have := reach_two Tryz.underlying40 hr
    simp only [Array.length_toList] at this
    exact ⟨s, t, rfl, this.1, this.2⟩
theorem open_attrs {fuel : Nat} {v : Value} {x : DataW H × List MemPlace} (h : DataW.trod enc Tryz.prog w 0 (fun _ => true) true fuel 29 [v] = some x) (hr : inReach (x.1.weights Tryz.prog 29)) :
    ∃ ax, AttrsV w v ax ∧ CapOK v ∧ ax.length ≤ 4398046511104 ∧ ∀ a ∈ ax, a.1.size ≤ reachBytes ∧ a.2.size ≤ reachBytes := by
  rcases open_slice Tryz.underlying29 h with ⟨e, rfl⟩ | ⟨a, len, cap, m, n, D, Pl, e, _, hl, hm, hmm, rfl, hc⟩
  · cases e
    exact ⟨[], ⟨none, 0, rfl, .inl rfl⟩, (fun p n c e => by cases e; exact Nat.le_refl _), by decide, (fun a q => by cases q)⟩
  · cases e
    have hmm : m = cap := by simpa using hmm
    subst hmm
    rw [cellsOfA] at hc
    have hV : ∀ i, i < len → ∃ z : ByteArray × ByteArray, (w.cell? (a.add (i * 2)) = some (.string z.1) ∧ w.cell? ((a.add (i * 2)).add 1) = some (.string z.2)) ∧ z.1.size ≤ reachBytes ∧ z.2.size ≤ reachBytes := fun i hi => by
      obtain ⟨cs', c1, c2⟩ := hc i (by omega)
      obtain ⟨s, t, rfl, z0, z1⟩ := open_attr c2 (all_weights (reach_slice Tryz.underlying29 hr).2 (List.mem_map.2 ⟨i, List.mem_range.2 hi, rfl⟩))
      have := (World.cells?_some c1).2.2
      have q0 := this 0 (by omega)
      have q1 := this 1 (by omega)
      rw [show (a.add (i * 2)).add 0 = a.add (i * 2) by simp [Addr.add]] at q0
      exact ⟨(s, t), ⟨q0, q1⟩, z0, z1⟩
    obtain ⟨f, hf⟩ := choose_lt hV
    refine ⟨(List.range len).map f, ⟨some a, m, by simp, ?_⟩, (fun p n c e => by cases e; exact hl), ?_, ?_⟩
    · by_cases h0 : len = 0
      · exact .inl (by rw [h0]; rfl)
      · have sp := addr_none (hf 0 (by omega)).1.1
        have sp' : a.spot = none := by
          have : a.add (0 * 2) = a := by simp [Addr.add]
          rwa [this] at sp
        refine .inr ⟨a.block, a.off, addr_eta sp', fun i hi => ?_⟩
        have hi : i < len := by simpa using hi
        have := (hf i hi).1
        rw [add_plain sp', add_plain rfl] at this
        simpa using this
    · have := (reach_slice Tryz.underlying29 hr).1
      rw [bytesOfA, List.length_map, List.length_range, List.length_map, List.length_range] at this
      unfold reachBytes at this
      rw [List.length_map, List.length_range]
      omega
    · intro y hy
      obtain ⟨i, hi, rfl⟩ := List.mem_map.1 hy
      exact (hf i (List.mem_range.1 hi)).2
end

end Go.Proofs.YtdjhbodbmhakgaaGreatDoor
