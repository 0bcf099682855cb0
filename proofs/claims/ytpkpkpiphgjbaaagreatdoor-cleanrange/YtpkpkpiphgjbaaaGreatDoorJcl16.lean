/- Joined texts. CleanR1: The document's Default and Range of layer 13: they answer by the functions of 'CleanB'; what lay in the world lies there still. Conditions: a row of attributes as it lies in the world; texts of at most 100000 bytes. StepU: The program's unitOf of layer 12: a kind's row of its table of units; what lay in the world lies there still. Condition: that table reads as its text lays it. TrimR: What strings.TrimRight answers at noughts: the shelf's contract, laid at this program. No condition. Max: The library's variable MaxLen holds some number: kept while what was there stays. No condition. NumLib: What strings.CutPrefix, strings.Cut and strings.TrimRight answer: the shelf's contracts, laid at this program. Conditions: texts of fewer than 2^32 - 15 bytes for Cut, which reads the library's variable MaxLen: it holds some number. ParseWalks: The program's cut, millionths and Parse answer by the functions of 'Num' and 'NumProg'; they change nothing that was there. Conditions: texts of fewer than 2^32 - 15 bytes; the library's variable MaxLen holds some number. -/
import Derived.Test.YtpkpkpiphgjbaaaGreatDoorJcl8
import Derived.Test.YtpkpkpiphgjbaaaGreatDoorJcl15
import Derived.Deep.DeepCutAuto
import Derived.Test.YtpkpkpiphgjbaaaGreatDoorJcl6
import Derived.Shelf.Strings.Trim
import Derived.Test.YtpkpkpiphgjbaaaGreatDoorProg
import Derived.Test.YtpkpkpiphgjbaaaGreatDoorRows
import Derived.Test.YtpkpkpiphgjbaaaGreatDoorJcl1
import Derived.Shelf.Strings.Cut
import Derived.Shelf.Small.Wraps
import Derived.Test.YtpkpkpiphgjbaaaGreatDoorJcl9
namespace Go.Proofs.YtpkpkpiphgjbaaaGreatDoor
open Go.RowKit

theorem least14 (ax : List (ByteArray × ByteArray)) : ∃ b, optV (leastK 14 ax) = .tuple #[.int .i64 (loK ax), .bool b] := ⟨_, rfl⟩
theorem most14 (ax : List (ByteArray × ByteArray)) : ∃ b, optV (mostK 14 ax) = .tuple #[.int .i64 (hiK ax), .bool b] := ⟨_, rfl⟩
set_option maxHeartbeats 8000000 in
set_option maxRecDepth 100000 in
theorem refDefault_any (v : Value) (ax : List (ByteArray × ByteArray)) (w : World) (hv : AttrsV w v ax) (hz : AxOK ax) :
    Calls Tryz.prog 18 #[v] w fun e w' => e = .returned (.int .i64 (defG (loK ax) (hiK ax))) ∧ Below w.heap.size w w' := by
  have H1 := hide (fun W (hb : Below w.heap.size w W) => refLeastK_any 14 v ax W (hv.below hb) hz)
  have H2 := hide (fun W (hb : Below w.heap.size w W) => refMostK_any 14 v ax W (hv.below hb) hz)
  obtain ⟨x1, e1⟩ := least14 ax
  obtain ⟨x2, e2⟩ := most14 ax
  rw [e1] at H1
  rw [e2] at H2
  have r1 : -1000000000000000000 ≤ loK ax ∧ loK ax ≤ 1000000000000000000 := least_range 14 ax
  have r2 : -1000000000000000000 ≤ hiK ax ∧ hiK ax ≤ 1000000000000000000 := most_range 14 ax
  obtain ⟨p, c, rfl, _⟩ := hv
  clear hz e1 e2
  generalize loK ax = lo at *
  generalize hiK ax = hi at *
  obtain ⟨a1, a2⟩ := r1
  obtain ⟨a3, a4⟩ := r2
  have E : Hid (defG lo hi = if hi < lo then lo else lo + (hi - lo) / 2) := rfl
  by_cases q : hi < lo
  · rw [if_pos q] at E
    go_enter Tryz.func18, Tryz.ntmps18
    go_wp2_with fail
    refine (H1.out _ (Below.refl _ _)).mono ?_
    rintro e w1 ⟨rfl, b1⟩
    go_wp2_with fail
    refine (H2.out _ b1).mono ?_
    rintro e w2 ⟨rfl, b2⟩
    go_wp2_with fail
    go_ret
    exact ⟨ret_int E.out.symm, chain b1 b2⟩
  · rw [if_neg q] at E
    have q2 : 0 ≤ hi - lo := by omega
    go_enter Tryz.func18, Tryz.ntmps18
    go_wp2_with fail
    refine (H1.out _ (Below.refl _ _)).mono ?_
    rintro e w1 ⟨rfl, b1⟩
    go_wp2_with fail
    refine (H2.out _ b1).mono ?_
    rintro e w2 ⟨rfl, b2⟩
    go_wp2_with fail
    go_ret
    exact ⟨ret_int E.out.symm, chain b1 b2⟩

theorem down_ok {n base st : Int} (h : 1 ≤ st) (h1 : -1000000000000000000 ≤ n) (h2 : st ≤ 1000000000000000000) : downOk n base st = true ∧ downV n base st = loG n base st := by
  have m := much_bounds (n := n) (base := base) h
  have k : downOk n base st = true := down_some h (by omega)
  exact ⟨k, downV_yes k⟩
theorem txt_back (s : ByteArray) : txt s.data.toList = s := by cases s; rfl
theorem ret_txt {a : ByteArray} {l : List UInt8} (h : a = txt l) : Ending.returned (.string a) = .returned (.string (txt l)) := by rw [h]
set_option maxHeartbeats 8000000 in
set_option maxRecDepth 100000 in
theorem refRange_any (v : Value) (ax : List (ByteArray × ByteArray)) (w : World) (hv : AttrsV w v ax) (hz : AxOK ax) (s : ByteArray) (hs : s.size ≤ 100000) :
    Calls Tryz.prog 32 #[v, .string s] w fun e w' => e = .returned (.string (txt (rangeT ax s.data.toList))) ∧ Below w.heap.size w w' := by
  have H1 := hide (fun W (hb : Below w.heap.size w W) => refLeastK_any 14 v ax W (hv.below hb) hz)
  have H2 := hide (fun W (hb : Below w.heap.size w W) => refMostK_any 14 v ax W (hv.below hb) hz)
  have H3 := hide (fun W (hb : Below w.heap.size w W) => refStepK_any 14 v ax W (hv.below hb) hz)
  have H4 := hide (fun W (hb : Below w.heap.size w W) => refBaseK_any 14 v ax W (hv.below hb) hz)
  have H5 := hide (fun W => refValue_any 14 s W hs)
  have H6 := hide (fun W (hb : Below w.heap.size w W) => refDefault_any v ax W (hv.below hb) hz)
  obtain ⟨x1, e1⟩ := least14 ax
  obtain ⟨x2, e2⟩ := most14 ax
  rw [e1] at H1
  rw [e2] at H2
  have RR := rangeK_range ax s.data.toList
  have HSh := hide (fun W => refShowK_any (k := 14) (n := rangeK ax s.data.toList) (o := some (showL (rangeK ax s.data.toList))) (.inl ⟨.inr rfl, .inl ⟨RR.1, RR.2, rfl⟩⟩) W (by omega) (by omega))
  rw [show txtV (some (showL (rangeK ax s.data.toList))) = .tuple #[.string (txt (showL (rangeK ax s.data.toList))), .bool true] from rfl] at HSh
  have HFit := hide (fun n st b W (g1 : -1000000000000000000 ≤ n) (g2 : n ≤ 1000000000000000000) (g3 : 1 ≤ st) (g4 : st ≤ 1000000000000000000) (g5 : -1000000000000000000 ≤ b) (g6 : b ≤ 1000000000000000000) => refFits_any n b st W (by omega) (by omega) (by omega) (by omega) (by omega) (by omega))
  have HDn := hide (fun n st b W (g1 : -1000000000000000000 ≤ n) (g2 : n ≤ 1000000000000000000) (g3 : 1 ≤ st) (g4 : st ≤ 1000000000000000000) (g5 : -1000000000000000000 ≤ b) (g6 : b ≤ 1000000000000000000) => refDown_any n b st W (by omega) (by omega) (by omega) (by omega) (by omega) (by omega))
  have r1 : -1000000000000000000 ≤ loK ax ∧ loK ax ≤ 1000000000000000000 := least_range 14 ax
  have r2 : -1000000000000000000 ≤ hiK ax ∧ hiK ax ≤ 1000000000000000000 := most_range 14 ax
  have r3 := base_range 14 ax
  have SR := hide (fun st => step_range 14 ax (b := st))
  have NR := hide (fun n => num_range (k := 14) (l := s.data.toList) (n := n))
  have ET : Hid (rangeT ax s.data.toList = if numK 14 s.data.toList = some (rangeK ax s.data.toList) then s.data.toList else showL (rangeK ax s.data.toList)) := rfl
  have EK : Hid (rangeK ax s.data.toList = stepG (loK ax) (hiK ax) (baseK 14 ax) (stepK 14 ax) (heldG (loK ax) (hiK ax) ((numK 14 s.data.toList).getD (defG (loK ax) (hiK ax))))) := rfl
  have HI := hide (def_in (loK ax) (hiK ax))
  obtain ⟨p, c, rfl, _⟩ := hv
  clear hz e1 e2 hs RR
  generalize loK ax = lo at *
  generalize hiK ax = hi at *
  generalize baseK 14 ax = bs at *
  generalize stepK 14 ax = S at *
  generalize rangeK ax s.data.toList = rk at *
  generalize numK 14 s.data.toList = own at *
  generalize rangeT ax s.data.toList = rt at *
  obtain ⟨a1, a2⟩ := r1
  obtain ⟨a3, a4⟩ := r2
  obtain ⟨a5, a6⟩ := r3
  have d0 : Hid (-1000000000000000000 ≤ own.getD (defG lo hi) ∧ own.getD (defG lo hi) ≤ 1000000000000000000) := by
    cases own with
    | none =>
      have := HI.out
      show -1000000000000000000 ≤ defG lo hi ∧ defG lo hi ≤ 1000000000000000000
      unfold defG at this ⊢
      split <;> omega
    | some n => exact NR.out n rfl
  unfold optV at H3 H5
  obtain ⟨y, hy⟩ : ∃ y, Hid (own.isSome = y) := ⟨_, show _ = _ from rfl⟩
  obtain ⟨z, hzz⟩ : ∃ z, Hid (optI own = z) := ⟨_, show _ = _ from rfl⟩
  obtain ⟨y2, hy2⟩ : ∃ y2, Hid (S.isSome = y2) := ⟨_, show _ = _ from rfl⟩
  obtain ⟨st, hst⟩ : ∃ st, Hid (optI S = st) := ⟨_, show _ = _ from rfl⟩
  rw [hy.out, hzz.out] at H5
  rw [hy2.out, hst.out] at H3
  go_enter Tryz.func32, Tryz.ntmps32
  go_wp2_with fail
  refine (H1.out _ (Below.refl _ _)).mono ?_
  rintro e w1 ⟨rfl, b1⟩
  go_wp2_with fail
  refine (H2.out _ b1).mono ?_
  rintro e w2 ⟨rfl, b2⟩
  have B2 := hide (chain b1 b2)
  clear b1 b2
  go_wp2_with fail
  refine (H3.out _ B2.out).mono ?_
  rintro e w3 ⟨rfl, b3⟩
  have B3 := hide (chain B2.out b3)
  clear b3 B2
  go_wp2_with fail
  refine (H4.out _ B3.out).mono ?_
  rintro e w4 ⟨rfl, b4⟩
  have B4 := hide (chain B3.out b4)
  clear b4 B3
  go_wp2_with fail
  refine (H5.out _).mono ?_
  rintro e w5 ⟨rfl, b5⟩
  have B5 := hide (chain B4.out b5)
  clear b5 B4 H1 H2 H3 H4 H5
  obtain ⟨n0, hn0⟩ : ∃ n0, Hid (own.getD (defG lo hi) = n0) := ⟨_, show _ = _ from rfl⟩
  go_upto_if 44 with fail
  go_cut [14] (fun t wx => t = .int .i64 n0 ∧ Hid (Below w.heap.size w wx))
  case first =>
    cases own with
    | none =>
      obtain rfl : false = y := hy.out
      have e0 : defG lo hi = n0 := hn0.out
      rw [e0] at H6
      clear ET EK d0 HI NR hn0 e0
      go_wp2_with fail
      refine (H6.out _ B5.out).mono ?_
      rintro e w6 ⟨rfl, b6⟩
      go_wp2_with fail
      go_meet
      case rel => exact ⟨rfl, chain B5.out b6⟩
    | some n =>
      obtain rfl : true = y := hy.out
      have e0 : n = n0 := hn0.out
      have e1 : n = z := hzz.out
      subst e1
      subst e0
      clear ET EK d0 HI NR hn0 H6
      go_wp2_with fail
      go_meet
      case rel => exact ⟨rfl, B5.out⟩
  case rest =>
  obtain ⟨rfl, B6⟩ := hcut
  clear B5 H6
  rw [hn0.out] at EK d0
  obtain ⟨g1, g2⟩ := d0.out
  have HD := hide (held_in lo hi n0)
  obtain ⟨n1, hn1⟩ : ∃ n1, Hid (heldG lo hi n0 = n1) := ⟨_, show _ = _ from rfl⟩
  rw [hn1.out] at EK HD
  go_upto_if 49 with fail
  go_cut [14] (fun t wx => t = .int .i64 n1 ∧ Hid (Below w.heap.size w wx))
  case first =>
    have hx : (if n0 < lo then lo else if hi < n0 ∧ lo ≤ hi then hi else n0) = n1 := hn1.out
    clear ET EK d0 HI NR hn0 hn1 HD
    by_cases q1 : n0 < lo
    · rw [if_pos q1] at hx
      subst hx
      go_wp2_with fail
      go_meet
      case rel => exact ⟨rfl, B6.out⟩
    · rw [if_neg q1] at hx
      by_cases q2 : hi < n0
      · by_cases q3 : lo ≤ hi
        · rw [if_pos ⟨q2, q3⟩] at hx
          subst hx
          go_wp2_with fail
          go_meet
          case rel => exact ⟨rfl, B6.out⟩
        · rw [if_neg (fun t => q3 t.2)] at hx
          subst hx
          have d3 : decide (lo ≤ hi) = false := decide_eq_false q3
          go_wp2_with fail
          go_meet
          case rel => exact ⟨rfl, B6.out⟩
      · rw [if_neg (fun t => q2 t.1)] at hx
        subst hx
        have d2 : decide (hi < n0) = false := decide_eq_false q2
        go_wp2_with fail
        go_meet
        case rel => exact ⟨rfl, B6.out⟩
  case rest =>
  obtain ⟨rfl, B7⟩ := hcut
  clear B6
  have bn : -1000000000000000000 ≤ n1 ∧ n1 ≤ 1000000000000000000 := by
    rw [← hn1.out]
    unfold heldG
    split
    · omega
    · split <;> omega
  obtain ⟨m1, m2⟩ := bn
  clear hn0 d0 HI NR hn1
  cases S with
  | none =>
    obtain rfl : false = y2 := hy2.out
    have ek : rk = n1 := EK.out
    subst ek
    clear EK hst hy2 HD
    have B8 := B7
    go_upto_if 67 with fail
    by_cases f : own = some rk
    · rw [if_pos f] at ET
      subst f
      obtain rfl : true = y := hy.out
      have e1 : rk = z := hzz.out
      subst e1
      have ES : Hid (s = txt rt) := by show _ = _; rw [ET.out]; exact (txt_back s).symm
      clear ET
      go_wp2_with fail
      go_ret
      exact ⟨ret_txt ES.out, B8.out⟩
    · rw [if_neg f] at ET
      have ES : Hid (txt (showL rk) = txt rt) := by show _ = _; rw [ET.out]
      generalize txt (showL rk) = x at *
      clear ET
      cases own with
      | none =>
        obtain rfl : false = y := hy.out
        clear f
        go_wp2_with fail
        refine (HSh.out _).mono ?_
        rintro e w9 ⟨rfl, b9⟩
        go_wp2_with fail
        go_ret
        exact ⟨ret_txt ES.out, chain B8.out b9⟩
      | some m =>
        obtain rfl : true = y := hy.out
        have e1 : m = z := hzz.out
        subst e1
        have nf : (rk == m) = false := beq_eq_false_iff_ne.2 (fun t => f (by rw [t]))
        clear f
        go_wp2_with fail
        refine (HSh.out _).mono ?_
        rintro e w9 ⟨rfl, b9⟩
        go_wp2_with fail
        go_ret
        exact ⟨ret_txt ES.out, chain B8.out b9⟩
  | some st' =>
    obtain rfl : true = y2 := hy2.out
    have e2 : st' = st := hst.out
    subst e2
    have sr := SR.out st' rfl
    obtain ⟨s1, s2⟩ := sr
    have ek : rk = ontoG lo hi bs st' n1 := EK.out
    have HF := hide (fun W => HFit.out n1 st' bs W m1 m2 s1 s2 a5 a6)
    have HDo := hide (fun W => HDn.out n1 st' bs W m1 m2 s1 s2 a5 a6)
    obtain ⟨k1, k2⟩ := down_ok (n := n1) (base := bs) s1 m1 s2
    rw [k1, k2] at HDo
    obtain ⟨_, _, l1, l2⟩ := lo_fits (n := n1) (base := bs) s1
    unfold ontoG at ek
    generalize loG n1 bs st' = d at *
    clear EK hst hy2 HFit HDn SR k1 k2
    replace ek := hide ek
    go_wp2_with fail
    refine (HF.out _).mono ?_
    rintro e w8 ⟨rfl, h8⟩
    obtain rfl : wc = w8 := h8.symm
    go_upto_if 67 with fail
    go_cut [14] (fun t wx => t = .int .i64 rk ∧ Hid (Below w.heap.size w wx))
    case first =>
      cases q : fitV n1 bs st' with
      | true =>
        have er : rk = n1 := by rw [ek.out, if_pos q]
        subst er
        clear ek ET
        go_wp2_with fail
        go_meet
        case rel => exact ⟨rfl, B7.out⟩
      | false =>
        have er : rk = (if d + st' ≤ hi ∧ (d + st' - n1 ≤ n1 - d ∨ d < lo) then d + st' else if lo ≤ d then d else n1) := by rw [ek.out, if_neg (by rw [q]; decide)]
        clear ek ET
        have d0 : (fitV n1 bs st') = false := q
        by_cases q1 : d + st' ≤ hi
        · by_cases q2 : d + st' - n1 ≤ n1 - d
          · rw [if_pos ⟨q1, .inl q2⟩] at er
            subst er
            go_wp2_with fail
            refine (HDo.out _).mono ?_
            rintro e w10 ⟨rfl, h10⟩
            obtain rfl : wc = w10 := h10.symm
            go_wp2_with fail
            go_meet
            case rel => exact ⟨rfl, B7.out⟩
          · have e2 : decide (d + st' - n1 ≤ n1 - d) = false := decide_eq_false q2
            by_cases q3 : d < lo
            · rw [if_pos ⟨q1, .inr q3⟩] at er
              subst er
              go_wp2_with fail
              refine (HDo.out _).mono ?_
              rintro e w10 ⟨rfl, h10⟩
              obtain rfl : wc = w10 := h10.symm
              go_wp2_with fail
              go_meet
              case rel => exact ⟨rfl, B7.out⟩
            · have e3 : decide (d < lo) = false := decide_eq_false q3
              have q4 : lo ≤ d := by omega
              rw [if_neg (fun t => t.2.elim q2 q3), if_pos q4] at er
              subst er
              go_wp2_with fail
              refine (HDo.out _).mono ?_
              rintro e w10 ⟨rfl, h10⟩
              obtain rfl : wc = w10 := h10.symm
              go_wp2_with fail
              go_meet
              case rel => exact ⟨rfl, B7.out⟩
        · have e1 : decide (d + st' ≤ hi) = false := decide_eq_false q1
          by_cases q4 : lo ≤ d
          · rw [if_neg (fun t => q1 t.1), if_pos q4] at er
            subst er
            go_wp2_with fail
            refine (HDo.out _).mono ?_
            rintro e w10 ⟨rfl, h10⟩
            obtain rfl : wc = w10 := h10.symm
            go_wp2_with fail
            go_meet
            case rel => exact ⟨rfl, B7.out⟩
          · have e4 : decide (lo ≤ d) = false := decide_eq_false q4
            rw [if_neg (fun t => q1 t.1), if_neg q4] at er
            subst er
            go_wp2_with fail
            refine (HDo.out _).mono ?_
            rintro e w10 ⟨rfl, h10⟩
            obtain rfl : wc = w10 := h10.symm
            go_wp2_with fail
            go_meet
            case rel => exact ⟨rfl, B7.out⟩
    case rest =>
    obtain ⟨rfl, B8⟩ := hcut
    clear B7
    by_cases f : own = some rk
    · rw [if_pos f] at ET
      subst f
      obtain rfl : true = y := hy.out
      have e1 : rk = z := hzz.out
      subst e1
      have ES : Hid (s = txt rt) := by show _ = _; rw [ET.out]; exact (txt_back s).symm
      clear ET
      go_wp2_with fail
      go_ret
      exact ⟨ret_txt ES.out, B8.out⟩
    · rw [if_neg f] at ET
      have ES : Hid (txt (showL rk) = txt rt) := by show _ = _; rw [ET.out]
      generalize txt (showL rk) = x at *
      clear ET
      cases own with
      | none =>
        obtain rfl : false = y := hy.out
        clear f
        go_wp2_with fail
        refine (HSh.out _).mono ?_
        rintro e w9 ⟨rfl, b9⟩
        go_wp2_with fail
        go_ret
        exact ⟨ret_txt ES.out, chain B8.out b9⟩
      | some m =>
        obtain rfl : true = y := hy.out
        have e1 : m = z := hzz.out
        subst e1
        have nf : (rk == m) = false := beq_eq_false_iff_ne.2 (fun t => f (by rw [t]))
        clear f
        go_wp2_with fail
        refine (HSh.out _).mono ?_
        rintro e w9 ⟨rfl, b9⟩
        go_wp2_with fail
        go_ret
        exact ⟨ret_txt ES.out, chain B8.out b9⟩

end Go.Proofs.YtpkpkpiphgjbaaaGreatDoor

namespace Go.Proofs.YtpkpkpiphgjbaaaGreatDoor
open Go.RowKit
set_option maxRecDepth 100000

/-- A kind's row of the table of units. -/
def momK (k : Int) : Int := if k ≤ 12 then k - 7 else 0
def UnitAt (w : World) (k : Nat) : Prop := w.cell? ⟨0, k * 3, none⟩ = some (.int .i64 (momK (k + 8))) ∧ w.cell? ⟨0, k * 3 + 1, none⟩ = some (.int .i64 (scaleK (k + 8))) ∧ w.cell? ⟨0, k * 3 + 2, none⟩ = some (.int .i64 (defK (k + 8)))
def Units (w : World) : Prop := ∀ k, k < 7 → UnitAt w k
theorem Units.below {w w' : World} (h : Units w) (hb : Below w.heap.size w w') : Units w' := fun k hk => ⟨(hb.cell (World.block_lt_of_cell? _ _ (h k hk).1)).trans (h k hk).1, (hb.cell (World.block_lt_of_cell? _ _ (h k hk).2.1)).trans (h k hk).2.1, (hb.cell (World.block_lt_of_cell? _ _ (h k hk).2.2)).trans (h k hk).2.2⟩
def rowU (k : Int) : Value := if 8 ≤ k ∧ k ≤ 14 then .agg #[.int .i64 (momK k), .int .i64 (scaleK k), .int .i64 (defK k)] else .agg #[.int .i64 0, .int .i64 0, .int .i64 0]

set_option maxHeartbeats 4000000 in
set_option maxRecDepth 100000 in
theorem unitOf_8 (w : World) (hU : Units w) : Calls Tryz.prog 74 #[.int .i64 8] w fun e w' => e = .returned (.agg #[.int .i64 1, .int .i64 86400000, .int .i64 86400000]) ∧ Below w.heap.size w w' := by
  obtain ⟨c0, c1, c2⟩ := hU 0 (by decide)
  rw [show momK ((0 : Nat) + 8) = 1 by decide] at c0
  rw [show scaleK ((0 : Nat) + 8) = 86400000 by decide] at c1
  rw [show defK ((0 : Nat) + 8) = 86400000 by decide] at c2
  have c3 : w.cell? ⟨0, 0, none⟩ = some (.int .i64 1) := c0
  have c4 : w.cell? ⟨0, 1, none⟩ = some (.int .i64 86400000) := c1
  have c5 : w.cell? ⟨0, 2, none⟩ = some (.int .i64 86400000) := c2
  have hlt : 0 < w.heap.size := World.block_lt_of_cell? _ _ c3
  have hne : 0 ≠ w.heap.size := by omega
  clear c0 c1 c2 hU
  go_enter Tryz.func74, Tryz.ntmps74
  go_wp2_with fail
  refine bodyPost_ret (v := .agg #[.int .i64 1, .int .i64 86400000, .int .i64 86400000]) (by simp [results, go_sem]) rfl ?_
  exact ⟨rfl, (Below.refl _ w).alloc (Nat.le_refl _) _⟩
set_option maxHeartbeats 4000000 in
set_option maxRecDepth 100000 in
theorem unitOf_9 (w : World) (hU : Units w) : Calls Tryz.prog 74 #[.int .i64 9] w fun e w' => e = .returned (.agg #[.int .i64 2, .int .i64 1, .int .i64 1]) ∧ Below w.heap.size w w' := by
  obtain ⟨c0, c1, c2⟩ := hU 1 (by decide)
  rw [show momK ((1 : Nat) + 8) = 2 by decide] at c0
  rw [show scaleK ((1 : Nat) + 8) = 1 by decide] at c1
  rw [show defK ((1 : Nat) + 8) = 1 by decide] at c2
  have c3 : w.cell? ⟨0, 3, none⟩ = some (.int .i64 2) := c0
  have c4 : w.cell? ⟨0, 4, none⟩ = some (.int .i64 1) := c1
  have c5 : w.cell? ⟨0, 5, none⟩ = some (.int .i64 1) := c2
  have hlt : 0 < w.heap.size := World.block_lt_of_cell? _ _ c3
  have hne : 0 ≠ w.heap.size := by omega
  clear c0 c1 c2 hU
  go_enter Tryz.func74, Tryz.ntmps74
  go_wp2_with fail
  refine bodyPost_ret (v := .agg #[.int .i64 2, .int .i64 1, .int .i64 1]) (by simp [results, go_sem]) rfl ?_
  exact ⟨rfl, (Below.refl _ w).alloc (Nat.le_refl _) _⟩
set_option maxHeartbeats 4000000 in
set_option maxRecDepth 100000 in
theorem unitOf_10 (w : World) (hU : Units w) : Calls Tryz.prog 74 #[.int .i64 10] w fun e w' => e = .returned (.agg #[.int .i64 3, .int .i64 604800000, .int .i64 604800000]) ∧ Below w.heap.size w w' := by
  obtain ⟨c0, c1, c2⟩ := hU 2 (by decide)
  rw [show momK ((2 : Nat) + 8) = 3 by decide] at c0
  rw [show scaleK ((2 : Nat) + 8) = 604800000 by decide] at c1
  rw [show defK ((2 : Nat) + 8) = 604800000 by decide] at c2
  have c3 : w.cell? ⟨0, 6, none⟩ = some (.int .i64 3) := c0
  have c4 : w.cell? ⟨0, 7, none⟩ = some (.int .i64 604800000) := c1
  have c5 : w.cell? ⟨0, 8, none⟩ = some (.int .i64 604800000) := c2
  have hlt : 0 < w.heap.size := World.block_lt_of_cell? _ _ c3
  have hne : 0 ≠ w.heap.size := by omega
  clear c0 c1 c2 hU
  go_enter Tryz.func74, Tryz.ntmps74
  go_wp2_with fail
  refine bodyPost_ret (v := .agg #[.int .i64 3, .int .i64 604800000, .int .i64 604800000]) (by simp [results, go_sem]) rfl ?_
  exact ⟨rfl, (Below.refl _ w).alloc (Nat.le_refl _) _⟩
set_option maxHeartbeats 4000000 in
set_option maxRecDepth 100000 in
theorem unitOf_11 (w : World) (hU : Units w) : Calls Tryz.prog 74 #[.int .i64 11] w fun e w' => e = .returned (.agg #[.int .i64 4, .int .i64 1000, .int .i64 60000]) ∧ Below w.heap.size w w' := by
  obtain ⟨c0, c1, c2⟩ := hU 3 (by decide)
  rw [show momK ((3 : Nat) + 8) = 4 by decide] at c0
  rw [show scaleK ((3 : Nat) + 8) = 1000 by decide] at c1
  rw [show defK ((3 : Nat) + 8) = 60000 by decide] at c2
  have c3 : w.cell? ⟨0, 9, none⟩ = some (.int .i64 4) := c0
  have c4 : w.cell? ⟨0, 10, none⟩ = some (.int .i64 1000) := c1
  have c5 : w.cell? ⟨0, 11, none⟩ = some (.int .i64 60000) := c2
  have hlt : 0 < w.heap.size := World.block_lt_of_cell? _ _ c3
  have hne : 0 ≠ w.heap.size := by omega
  clear c0 c1 c2 hU
  go_enter Tryz.func74, Tryz.ntmps74
  go_wp2_with fail
  refine bodyPost_ret (v := .agg #[.int .i64 4, .int .i64 1000, .int .i64 60000]) (by simp [results, go_sem]) rfl ?_
  exact ⟨rfl, (Below.refl _ w).alloc (Nat.le_refl _) _⟩
set_option maxHeartbeats 4000000 in
set_option maxRecDepth 100000 in
theorem unitOf_12 (w : World) (hU : Units w) : Calls Tryz.prog 74 #[.int .i64 12] w fun e w' => e = .returned (.agg #[.int .i64 5, .int .i64 1000, .int .i64 60000]) ∧ Below w.heap.size w w' := by
  obtain ⟨c0, c1, c2⟩ := hU 4 (by decide)
  rw [show momK ((4 : Nat) + 8) = 5 by decide] at c0
  rw [show scaleK ((4 : Nat) + 8) = 1000 by decide] at c1
  rw [show defK ((4 : Nat) + 8) = 60000 by decide] at c2
  have c3 : w.cell? ⟨0, 12, none⟩ = some (.int .i64 5) := c0
  have c4 : w.cell? ⟨0, 13, none⟩ = some (.int .i64 1000) := c1
  have c5 : w.cell? ⟨0, 14, none⟩ = some (.int .i64 60000) := c2
  have hlt : 0 < w.heap.size := World.block_lt_of_cell? _ _ c3
  have hne : 0 ≠ w.heap.size := by omega
  clear c0 c1 c2 hU
  go_enter Tryz.func74, Tryz.ntmps74
  go_wp2_with fail
  refine bodyPost_ret (v := .agg #[.int .i64 5, .int .i64 1000, .int .i64 60000]) (by simp [results, go_sem]) rfl ?_
  exact ⟨rfl, (Below.refl _ w).alloc (Nat.le_refl _) _⟩
set_option maxHeartbeats 4000000 in
set_option maxRecDepth 100000 in
theorem unitOf_13 (w : World) (hU : Units w) : Calls Tryz.prog 74 #[.int .i64 13] w fun e w' => e = .returned (.agg #[.int .i64 0, .int .i64 1000000, .int .i64 1000000]) ∧ Below w.heap.size w w' := by
  obtain ⟨c0, c1, c2⟩ := hU 5 (by decide)
  rw [show momK ((5 : Nat) + 8) = 0 by decide] at c0
  rw [show scaleK ((5 : Nat) + 8) = 1000000 by decide] at c1
  rw [show defK ((5 : Nat) + 8) = 1000000 by decide] at c2
  have c3 : w.cell? ⟨0, 15, none⟩ = some (.int .i64 0) := c0
  have c4 : w.cell? ⟨0, 16, none⟩ = some (.int .i64 1000000) := c1
  have c5 : w.cell? ⟨0, 17, none⟩ = some (.int .i64 1000000) := c2
  have hlt : 0 < w.heap.size := World.block_lt_of_cell? _ _ c3
  have hne : 0 ≠ w.heap.size := by omega
  clear c0 c1 c2 hU
  go_enter Tryz.func74, Tryz.ntmps74
  go_wp2_with fail
  refine bodyPost_ret (v := .agg #[.int .i64 0, .int .i64 1000000, .int .i64 1000000]) (by simp [results, go_sem]) rfl ?_
  exact ⟨rfl, (Below.refl _ w).alloc (Nat.le_refl _) _⟩
set_option maxHeartbeats 4000000 in
set_option maxRecDepth 100000 in
theorem unitOf_14 (w : World) (hU : Units w) : Calls Tryz.prog 74 #[.int .i64 14] w fun e w' => e = .returned (.agg #[.int .i64 0, .int .i64 1000000, .int .i64 1000000]) ∧ Below w.heap.size w w' := by
  obtain ⟨c0, c1, c2⟩ := hU 6 (by decide)
  rw [show momK ((6 : Nat) + 8) = 0 by decide] at c0
  rw [show scaleK ((6 : Nat) + 8) = 1000000 by decide] at c1
  rw [show defK ((6 : Nat) + 8) = 1000000 by decide] at c2
  have c3 : w.cell? ⟨0, 18, none⟩ = some (.int .i64 0) := c0
  have c4 : w.cell? ⟨0, 19, none⟩ = some (.int .i64 1000000) := c1
  have c5 : w.cell? ⟨0, 20, none⟩ = some (.int .i64 1000000) := c2
  have hlt : 0 < w.heap.size := World.block_lt_of_cell? _ _ c3
  have hne : 0 ≠ w.heap.size := by omega
  clear c0 c1 c2 hU
  go_enter Tryz.func74, Tryz.ntmps74
  go_wp2_with fail
  refine bodyPost_ret (v := .agg #[.int .i64 0, .int .i64 1000000, .int .i64 1000000]) (by simp [results, go_sem]) rfl ?_
  exact ⟨rfl, (Below.refl _ w).alloc (Nat.le_refl _) _⟩
set_option maxHeartbeats 4000000 in
set_option maxRecDepth 100000 in
theorem unitOf_lt (k : Int) (w : World) (h : k < 8) : Calls Tryz.prog 74 #[.int .i64 k] w fun e w' => e = .returned (.agg #[.int .i64 0, .int .i64 0, .int .i64 0]) ∧ Below w.heap.size w w' := by
  go_enter Tryz.func74, Tryz.ntmps74
  go_wp2_with fail
  refine bodyPost_ret (v := .agg #[.int .i64 0, .int .i64 0, .int .i64 0]) (by simp [results, go_sem]) rfl ?_
  exact ⟨rfl, (Below.refl _ w).alloc (Nat.le_refl _) _⟩
set_option maxHeartbeats 4000000 in
set_option maxRecDepth 100000 in
theorem unitOf_gt (k : Int) (w : World) (h : 14 < k) : Calls Tryz.prog 74 #[.int .i64 k] w fun e w' => e = .returned (.agg #[.int .i64 0, .int .i64 0, .int .i64 0]) ∧ Below w.heap.size w w' := by
  have h8 : ¬ k < 8 := by omega
  have d8 : decide (k < 8) = false := decide_eq_false h8
  go_enter Tryz.func74, Tryz.ntmps74
  go_wp2_with fail
  refine bodyPost_ret (v := .agg #[.int .i64 0, .int .i64 0, .int .i64 0]) (by simp [results, go_sem]) rfl ?_
  exact ⟨rfl, (Below.refl _ w).alloc (Nat.le_refl _) _⟩

theorem unitOf_any (k : Int) (w : World) (hU : Units w) : Calls Tryz.prog 74 #[.int .i64 k] w fun e w' => e = .returned (rowU k) ∧ Below w.heap.size w w' := by
  by_cases h : 8 ≤ k ∧ k ≤ 14
  · rcases (show k = 8 ∨ k = 9 ∨ k = 10 ∨ k = 11 ∨ k = 12 ∨ k = 13 ∨ k = 14 by omega) with rfl | rfl | rfl | rfl | rfl | rfl | rfl
    · exact unitOf_8 w hU
    · exact unitOf_9 w hU
    · exact unitOf_10 w hU
    · exact unitOf_11 w hU
    · exact unitOf_12 w hU
    · exact unitOf_13 w hU
    · exact unitOf_14 w hU
  · unfold rowU
    rw [if_neg h]
    rcases (show k < 8 ∨ 14 < k by omega) with q | q
    · exact unitOf_lt k w q
    · exact unitOf_gt k w q

end Go.Proofs.YtpkpkpiphgjbaaaGreatDoor

namespace Go.Proofs.YtpkpkpiphgjbaaaGreatDoor
open Go.Shelf Go.RowKit
set_option maxRecDepth 100000

def trren : Go.Shelf.Ren := ⟨fun | 119 => 192 | 120 => 174 | 137 => 83 | 151 => 143 | 152 => 173 | 162 => 151 | 197 => 142 | 217 => 130 | 224 => 193 | 225 => 194 | 227 => 105 | 228 => 141 | 232 => 104 | 234 => 107 | 236 => 109 | 260 => 172 | 266 => 169 | 271 => 144 | n => n, fun | 0 => 0 | 3 => 3 | 4 => 4 | 5 => 5 | 9 => 9 | 21 => 21 | 46 => 168 | 72 => 66 | 105 => 141 | 116 => 112 | 117 => 113 | 119 => 167 | 124 => 116 | 138 => 170 | 139 => 171 | n => n, fun | 3 => 3 | 4 => 4 | n => n⟩
theorem lays162 : Go.Proofs.Lays.n162 Tryz.prog trren := {
  mixed := by kernel_rfl
  f119 := Tryz.func192.trans (congrArg some (by kernel_rfl))
  f120 := Tryz.func174.trans (congrArg some (by kernel_rfl))
  f137 := Tryz.func83.trans (congrArg some (by kernel_rfl))
  f151 := Tryz.func143.trans (congrArg some (by kernel_rfl))
  f152 := Tryz.func173.trans (congrArg some (by kernel_rfl))
  f162 := Tryz.func151.trans (congrArg some (by kernel_rfl))
  f197 := Tryz.func142.trans (congrArg some (by kernel_rfl))
  f217 := Tryz.func130.trans (congrArg some (by kernel_rfl))
  f224 := Tryz.func193.trans (congrArg some (by kernel_rfl))
  f225 := Tryz.func194.trans (congrArg some (by kernel_rfl))
  f227 := Tryz.func105.trans (congrArg some (by kernel_rfl))
  f228 := Tryz.func141.trans (congrArg some (by kernel_rfl))
  f232 := Tryz.func104.trans (congrArg some (by kernel_rfl))
  f234 := Tryz.func107.trans (congrArg some (by kernel_rfl))
  f236 := Tryz.func109.trans (congrArg some (by kernel_rfl))
  f260 := Tryz.func172.trans (congrArg some (by kernel_rfl))
  f266 := Tryz.func169.trans (congrArg some (by kernel_rfl))
  f271 := Tryz.func144.trans (congrArg some (by kernel_rfl))
  t0 := Tryz.underlying0
  a0 := Tryz.isAgg0
  z0 := Tryz.sizeOf0
  v0 := Tryz.zeroValue0
  t3 := Tryz.underlying3
  a3 := Tryz.isAgg3
  z3 := Tryz.sizeOf3
  v3 := Tryz.zeroValue3
  t4 := Tryz.underlying4
  a4 := Tryz.isAgg4
  z4 := Tryz.sizeOf4
  v4 := Tryz.zeroValue4
  t5 := Tryz.underlying5
  a5 := Tryz.isAgg5
  z5 := Tryz.sizeOf5
  v5 := Tryz.zeroValue5
  t9 := Tryz.underlying9
  a9 := Tryz.isAgg9
  z9 := Tryz.sizeOf9
  v9 := Tryz.zeroValue9
  t21 := Tryz.underlying21
  a21 := Tryz.isAgg21
  z21 := Tryz.sizeOf21
  v21 := Tryz.zeroValue21
  t46 := Tryz.underlying168
  a46 := Tryz.isAgg168
  z46 := Tryz.sizeOf168
  v46 := Tryz.zeroValue168
  t105 := Tryz.underlying141
  a105 := Tryz.isAgg141
  z105 := Tryz.sizeOf141
  v105 := Tryz.zeroValue141
  t116 := Tryz.underlying112
  a116 := Tryz.isAgg112
  z116 := Tryz.sizeOf112
  t117 := Tryz.underlying113
  a117 := Tryz.isAgg113
  z117 := Tryz.sizeOf113
  v117 := Tryz.zeroValue113
  t119 := Tryz.underlying167
  a119 := Tryz.isAgg167
  z119 := Tryz.sizeOf167
  t124 := Tryz.underlying116
  a124 := Tryz.isAgg116
  z124 := Tryz.sizeOf116
  v124 := Tryz.zeroValue116
  t138 := Tryz.underlying170
  a138 := Tryz.isAgg170
  z138 := Tryz.sizeOf170
  v138 := Tryz.zeroValue170
  t139 := Tryz.underlying171
  a139 := Tryz.isAgg171
  z139 := Tryz.sizeOf171
  v139 := Tryz.zeroValue171
  g3 := by kernel_rfl
  g4 := by kernel_rfl }
theorem trimRight_any (s : ByteArray) (w : World) (hs : s.size ≤ 9223372036854775807) :
    Calls Tryz.prog 151 #[.string s, .string ⟨#[48]⟩] w fun e w' => e = .returned (.string (txt (trimZ s.data.toList))) ∧ w' = w :=
  Any.strings_TrimRight_one lays162 s 48 (by decide) w hs

end Go.Proofs.YtpkpkpiphgjbaaaGreatDoor

namespace Go.Proofs.YtpkpkpiphgjbaaaGreatDoor
open Go.RowKit

/-- The library's variable MaxLen holds some number. -/
def SomeMax (w : World) : Prop := ∃ m, w.cell? ⟨1, 0, none⟩ = some (.int .i64 m)
theorem SomeMax.below {w w' : World} (h : SomeMax w) (hb : Below w.heap.size w w') : SomeMax w' := by
  obtain ⟨m, hm⟩ := h
  exact ⟨m, (hb.cell (World.block_lt_of_cell? _ _ hm)).trans hm⟩

end Go.Proofs.YtpkpkpiphgjbaaaGreatDoor

namespace Go.Proofs.YtpkpkpiphgjbaaaGreatDoor
open Go.Shelf Go.RowKit
set_option maxRecDepth 100000

def cpren : Go.Shelf.Ren := ⟨fun | 103 => 148 | 206 => 196 | 210 => 178 | n => n, fun | 3 => 3 | 4 => 4 | 5 => 5 | 9 => 9 | 24 => 41 | 72 => 66 | n => n, fun  | n => n⟩
theorem lays103 : Go.Proofs.Lays.n103 Tryz.prog cpren := {
  mixed := by kernel_rfl
  f103 := Tryz.func148.trans (congrArg some (by kernel_rfl))
  f206 := Tryz.func196.trans (congrArg some (by kernel_rfl))
  f210 := Tryz.func178.trans (congrArg some (by kernel_rfl))
  t3 := Tryz.underlying3
  a3 := Tryz.isAgg3
  z3 := Tryz.sizeOf3
  v3 := Tryz.zeroValue3
  t4 := Tryz.underlying4
  a4 := Tryz.isAgg4
  z4 := Tryz.sizeOf4
  v4 := Tryz.zeroValue4
  t9 := Tryz.underlying9
  a9 := Tryz.isAgg9
  z9 := Tryz.sizeOf9
  v9 := Tryz.zeroValue9
  t24 := Tryz.underlying41
  a24 := Tryz.isAgg41
  z24 := Tryz.sizeOf41
  v24 := Tryz.zeroValue41 }
def ctren : Go.Shelf.Ren := ⟨fun | 145 => 149 | 217 => 130 | 219 => 177 | 220 => 179 | 224 => 193 | 225 => 194 | 266 => 169 | 267 => 195 | 314 => 208 | n => n, fun | 3 => 3 | 4 => 4 | 5 => 5 | 9 => 9 | 46 => 168 | 51 => 181 | 59 => 147 | 72 => 66 | 146 => 182 | n => n, fun | 1 => 1 | n => n⟩
theorem lays145 : Go.Proofs.Lays.n145 Tryz.prog ctren := {
  mixed := by kernel_rfl
  f145 := Tryz.func149.trans (congrArg some (by kernel_rfl))
  f217 := Tryz.func130.trans (congrArg some (by kernel_rfl))
  f219 := Tryz.func177.trans (congrArg some (by kernel_rfl))
  f220 := Tryz.func179.trans (congrArg some (by kernel_rfl))
  f224 := Tryz.func193.trans (congrArg some (by kernel_rfl))
  f225 := Tryz.func194.trans (congrArg some (by kernel_rfl))
  f266 := Tryz.func169.trans (congrArg some (by kernel_rfl))
  f267 := Tryz.func195.trans (congrArg some (by kernel_rfl))
  f314 := Tryz.func208.trans (congrArg some (by kernel_rfl))
  t3 := Tryz.underlying3
  a3 := Tryz.isAgg3
  z3 := Tryz.sizeOf3
  v3 := Tryz.zeroValue3
  t4 := Tryz.underlying4
  a4 := Tryz.isAgg4
  z4 := Tryz.sizeOf4
  v4 := Tryz.zeroValue4
  t5 := Tryz.underlying5
  a5 := Tryz.isAgg5
  z5 := Tryz.sizeOf5
  v5 := Tryz.zeroValue5
  t9 := Tryz.underlying9
  a9 := Tryz.isAgg9
  z9 := Tryz.sizeOf9
  v9 := Tryz.zeroValue9
  t46 := Tryz.underlying168
  a46 := Tryz.isAgg168
  z46 := Tryz.sizeOf168
  v46 := Tryz.zeroValue168
  t51 := Tryz.underlying181
  a51 := Tryz.isAgg181
  z51 := Tryz.sizeOf181
  v51 := Tryz.zeroValue181
  t59 := Tryz.underlying147
  a59 := Tryz.isAgg147
  z59 := Tryz.sizeOf147
  v59 := Tryz.zeroValue147
  t146 := Tryz.underlying182
  a146 := Tryz.isAgg182
  z146 := Tryz.sizeOf182
  v146 := Tryz.zeroValue182
  g1 := by kernel_rfl }


theorem cutPrefix_any (s : ByteArray) (w : World) :
    Calls Tryz.prog 148 #[.string s, .string ⟨#[45]⟩] w fun e w' => e = .returned (.tuple #[.string (txt (bodyV s.data.toList)), .bool (negV s.data.toList)]) ∧ w' = w := by
  have := Any.strings_CutPrefix lays103 s ⟨#[45]⟩ w
  have e1 : Lib.trimPrefix s.data.toList (⟨#[45]⟩ : ByteArray).data.toList = bodyV s.data.toList := body_prefix _
  have e2 : Lib.hasPrefix s.data.toList (⟨#[45]⟩ : ByteArray).data.toList = negV s.data.toList := neg_prefix _
  rw [e1, e2] at this
  exact this
theorem cutAt_no (l : List UInt8) (w : World) (hs : l.length < 4294967281) (hm : SomeMax w) (h : (46 : UInt8) ∉ l) :
    Calls Tryz.prog 149 #[.string (txt l), .string ⟨#[46]⟩] w fun e w' => e = .returned (.tuple #[.string (txt l), .string ⟨#[]⟩, .bool false]) ∧ Below w.heap.size w w' := by
  obtain ⟨m, hm⟩ := hm
  have := Any.strings_Cut lays145 (txt l) ⟨#[46]⟩ m w hs hm
  have e1 : Lib.cut (txt l).data.toList (⟨#[46]⟩ : ByteArray).data.toList = (l, [], false) := cut_no h
  rw [e1] at this
  refine this.mono ?_
  rintro e w' ⟨rfl, n, rfl⟩
  exact ⟨rfl, ⟨rfl, rfl, rfl, Nat.le_refl _, fun _ _ => rfl⟩⟩
theorem cutAt_yes (a b : List UInt8) (w : World) (hs : (a ++ 46 :: b).length < 4294967281) (hm : SomeMax w) (h : (46 : UInt8) ∉ a) :
    Calls Tryz.prog 149 #[.string (txt (a ++ 46 :: b)), .string ⟨#[46]⟩] w fun e w' => e = .returned (.tuple #[.string (txt a), .string (txt b), .bool true]) ∧ Below w.heap.size w w' := by
  obtain ⟨m, hm⟩ := hm
  have := Any.strings_Cut lays145 (txt (a ++ 46 :: b)) ⟨#[46]⟩ m w hs hm
  have e1 : Lib.cut (txt (a ++ 46 :: b)).data.toList (⟨#[46]⟩ : ByteArray).data.toList = (a, b, true) := cut_yes h
  rw [e1] at this
  refine this.mono ?_
  rintro e w' ⟨rfl, n, rfl⟩
  exact ⟨rfl, ⟨rfl, rfl, rfl, Nat.le_refl _, fun _ _ => rfl⟩⟩

end Go.Proofs.YtpkpkpiphgjbaaaGreatDoor

namespace Go.Proofs.YtpkpkpiphgjbaaaGreatDoor
open Go.RowKit
set_option maxRecDepth 100000



theorem ret_mil {n : Int} {b : Bool} {m : Int} {c : Bool} (h : n = m) (g : b = c) : Ending.returned (.tuple #[.int .i64 n, .bool b]) = .returned (.tuple #[.int .i64 m, .bool c]) := by rw [h, g]

set_option maxHeartbeats 1000000 in
theorem millionths_no (s : ByteArray) (w : World) (hs : s.size ≤ maxLen) (hn : someD (s.data.toList.drop 6) = true) :
    Calls Tryz.prog 114 #[.string s] w fun e w' => e = .returned (.tuple #[.int .i64 0, .bool false]) ∧ w' = w := by
  have hz := trimZ_size s.data.toList
  have hl := (trimZ_len s.data.toList).2 hn
  have hsz : s.data.toList.length = s.size := by simp
  unfold maxLen at hs
  have hT := fun w => trimRight_any s w (by omega)
  generalize trimZ s.data.toList = t at *
  have ht : (txt t).size = t.length := rfl
  have hl' : (6 : Int) < ((txt t).size : Int) := by omega
  have HT := hide hT
  clear hT hn
  go_enter Tryz.func114, Tryz.ntmps114
  go_wp2_with fail
  refine (HT.out _).mono ?_
  rintro e u1 ⟨rfl, rfl⟩
  go_wp2_with fail
  go_ret2
  exact ⟨rfl, rfl⟩

theorem tens_le {n t j : Nat} (h : n < 10 ^ t) (hj : t + j ≤ 6) : n * 10 ^ j ≤ 1000000 := by
  have h1 : n * 10 ^ j ≤ 10 ^ t * 10 ^ j := Nat.mul_le_mul_right _ (Nat.le_of_lt h)
  rw [← Nat.pow_add] at h1
  have h2 : 10 ^ (t + j) ≤ 10 ^ 6 := Nat.pow_le_pow_right (by decide) hj
  have h3 : 10 ^ 6 = 1000000 := by decide
  omega
theorem tens_next (n j : Nat) : n * 10 ^ (j + 1) = n * 10 ^ j * 10 := by rw [Nat.pow_succ, Nat.mul_assoc]
/-- A number with j noughts behind it. -/
structure TenAt (a j n : Nat) : Prop where
  is : n = a * 10 ^ j

set_option maxHeartbeats 1000000 in
theorem millionths_yes (s : ByteArray) (w : World) (hs : s.size ≤ maxLen) (hd : ∀ c ∈ s.data.toList, isDg c = true) (hn : someD (s.data.toList.drop 6) = false) :
    Calls Tryz.prog 114 #[.string s] w fun e w' => e = .returned (.tuple #[.int .i64 (fracOf 6 s.data.toList : Nat), .bool true]) ∧ w' = w := by
  have hl : (trimZ s.data.toList).length ≤ 6 := by
    rcases Nat.lt_or_ge 6 (trimZ s.data.toList).length with g | g
    · rw [(trimZ_len _).1 g] at hn; cases hn
    · exact g
  have hdt := trimZ_dg hd
  have hfr := trimZ_frac hl
  unfold maxLen at hs
  have hT := fun w => trimRight_any s w (by omega)
  generalize trimZ s.data.toList = t at *
  have hlt := natOf_lt t hdt
  have hW := fun w => wholePart_any (txt t) w (by rw [txt_size]; unfold maxLen; omega) hdt
  have ew : wholeV 0 (txt t).data.toList = natOf t := wholeV_eq 0 t (by
    have := tens_le (j := 0) hlt (by omega)
    unfold MW; unfold natOf at this; omega)
  rw [ew] at hW
  have ht : (txt t).size = t.length := rfl
  have hle := fun j => tens_le (j := j) hlt
  generalize natOf t = n at *
  have HT := hide hT
  have HW := hide hW
  have HF := hide hfr
  have HL := hide hle
  have hl' : ((txt t).size : Int) ≤ 6 := by omega
  clear hT hW hn hd hdt hlt hfr ew hle
  go_enter Tryz.func114, Tryz.ntmps114
  go_wp2_with fail
  refine (HT.out _).mono ?_
  rintro e u1 ⟨rfl, rfl⟩
  go_wp2_with fail
  refine (HW.out _).mono ?_
  rintro e u1 ⟨rfl, rfl⟩
  go_wp2_with fail
  go_loop [4, 15] (fun v i => ∃ j m : Nat, t.length + j ≤ 6 ∧ i = .int .i64 j ∧ v = .int .i64 m ∧ TenAt n j m) (fun _ i => 6 - (intOf i).toNat)
  case atStart => exact ⟨0, n, hl, rfl, rfl, ⟨by rw [Nat.pow_zero, Nat.mul_one]⟩⟩
  case round =>
    obtain ⟨j, m, hj, rfl, rfl, hm⟩ := hrel
    have hmb : m ≤ 1000000 := by rw [hm.is]; exact HL.out j hj
    by_cases hlt : t.length + j < 6
    · have E : TenAt n (j + 1) (m * 10) := ⟨by rw [tens_next, ← hm.is]⟩
      clear hm
      go_wp2_with fail
      go_round
      case rel => exact ⟨j + 1, m * 10, by omega, by go_num, by go_num, E⟩
      case measure => simp [intOf]; omega
    · have E : Hid (m = fracOf 6 s.data.toList) := by
        have e := HF.out
        rw [show 6 - t.length = j by omega] at e
        rw [hm.is]; exact e
      clear hm
      go_wp2_with fail
      go_ret2
      exact ⟨ret_mil (by rw [E.out]) rfl, rfl⟩

end Go.Proofs.YtpkpkpiphgjbaaaGreatDoor
