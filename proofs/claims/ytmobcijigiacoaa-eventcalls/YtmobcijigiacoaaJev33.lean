/- Paths to nodes, and the listeners that an event calls, as functions of documents and listeners. Listeners and calls as they lie in the world. The document's at, Calls, Same of layer 23. Stage 23's law EventCalls, walked. -/
import Derived.Test.YtmobcijigiacoaaJev21
import Derived.Test.YtmobcijigiacoaaJev24
import Derived.Test.YtmobcijigiacoaaJev27
import Derived.Test.YtmobcijigiacoaaJev29
import Derived.Test.YtmobcijigiacoaaJev30

namespace Go.Proofs.Ytmobcijigiacoaa
open Go.RowKit
theorem at_len {n ph : Int} {k : ByteArray} {c : Bool} : ∀ {xs : List Ls} {i : Nat}, (atF n ph k c i xs).length ≤ xs.length
  | [], _ => Nat.le_refl _
  | x :: xs, i => by
    show (_ ++ atF n ph k c (i + 1) xs).length ≤ _
    rw [List.length_append, List.length_cons]
    have := at_len (n := n) (ph := ph) (k := k) (c := c) (xs := xs) (i := i + 1)
    split <;> simp <;> omega
end Go.Proofs.Ytmobcijigiacoaa

namespace Go.Proofs.Ytmobcijigiacoaa
open Go.RowKit
theorem cellsK_one {cs : List Cl} : ∀ u ∈ cellsK cs, u.oneCell' = true := fun u hu => by
  unfold cellsK at hu
  obtain ⟨c, _, hc⟩ := List.mem_flatMap.1 hu
  simp only [List.mem_cons, List.not_mem_nil, or_false] at hc
  rcases hc with rfl | rfl | rfl <;> rfl
end Go.Proofs.Ytmobcijigiacoaa

namespace Go.Proofs.Ytmobcijigiacoaa
open Go.RowKit
set_option maxRecDepth 100000
theorem at_step {n ph : Int} {k : ByteArray} {c : Bool} {all : List Ls} {j : Nat} (h : j < all.length) : atF n ph k c 0 (all.take (j + 1)) = atF n ph k c 0 (all.take j) ++ (if lsB n k c all[j] = true then [((j : Int), n, ph)] else []) := by
  rw [List.take_succ_eq_append_getElem h, at_app, List.length_take, Nat.min_eq_left (Nat.le_of_lt h), Nat.zero_add]
  show _ ++ (_ ++ []) = _
  rw [List.append_nil]
set_option maxHeartbeats 8000000 in
theorem refAt23_any (vl : Value) (all : List Ls) (n ph : Int) (k : ByteArray) (c : Bool) (w : World) (hl : LsV w vl all) (hn : all.length ≤ 1000000) :
    Calls Try.prog 30 #[vl, .int .i64 n, .int .i64 ph, .string k, .bool c] w fun e w' => ∃ q z, e = .returned (.slice q (atF n ph k c 0 all).length z) ∧ ClsO w.heap.size w' (.slice q (atF n ph k c 0 all).length z) (atF n ph k c 0 all) ∧ Below w.heap.size w w' := by
  obtain ⟨A, hA, p, ca, rfl, hv⟩ := hl
  have HV := hide hv
  obtain ⟨iI, hI0, hI1, hI2, hI3⟩ := info_parts info_call
  clear hv hA
  go_enter Try.func30, Try.ntmps30
  go_wp2_with fail
  go_loopw [11, 12] (fun ov iv wr => ∃ (j : Nat) (q : Option Addr) (cp : Nat), j ≤ all.length ∧ iv = .int .i64 j ∧ ov = .slice q (atF n ph k c 0 (all.take j)).length cp ∧ Hid (ClsO w.heap.size wr (.slice q (atF n ph k c 0 (all.take j)).length cp) (atF n ph k c 0 (all.take j))) ∧ Hid (Below w.heap.size w wr)) (fun _ iv _ => all.length - (intOf iv).toNat)
  case atStart => exact ⟨0, none, 0, Nat.zero_le _, rfl, rfl, World.ownsRow_nil _ _ _ _, Below.refl _ _⟩
  case round =>
    rename World => wr
    obtain ⟨j, qx, cx, hj, rfl, rfl, KX, BW⟩ := hrel
    by_cases g : j < all.length
    · have j1 : (j : Int) < (all.length : Int) := by omega
      have j0 : (0 : Int) ≤ (j : Int) := by omega
      obtain ⟨b, o, rfl, hc⟩ : ∃ b o, p = some ⟨b, o, none⟩ ∧ ∀ i (h : i < all.length), LsAt w b (o + i * 4) all[i] (aAt A i) := by
        rcases HV.out with t | t
        · rw [t] at g; simp at g
        · exact t
      have LA := (hc j g).below BW.out
      have x0 : wr.cell? ⟨b, o + j * 4, none⟩ = some (.int .i64 all[j].node) := LA 0 _ rfl
      have x1 : wr.cell? ⟨b, o + j * 4 + 1, none⟩ = some (.string all[j].typ) := LA 1 _ rfl
      have x2 : wr.cell? ⟨b, o + j * 4 + 2, none⟩ = some (.bool all[j].cap) := LA 2 _ rfl
      have ST := hide (at_step (n := n) (ph := ph) (k := k) (c := c) g)
      have LB : lsB n k c all[j] = (decide (all[j].node = n) && (decide (all[j].typ = k) && (all[j].cap == c))) := rfl
      have fl : (atF n ph k c 0 (all.take j)).length ≤ 1000000 := Nat.le_trans at_len (by rw [List.length_take]; omega)
      have AL : Hid (Below wr.heap.size wr (wr.alloc (.cells #[.int .i64 (j : Int), .int .i64 n, .int .i64 ph] 38))) := (Below.refl _ _).alloc (Nat.le_refl _) _
      have OZ := hide (owns_below KX.out AL.out)
      have RAW := hide ((Bk.new wr [.int .i64 (j : Int), .int .i64 n, .int .i64 ph] 38).raw 1 3 rfl 1)
      have WZ : Hid (w.heap.size ≤ (wr.alloc (.cells #[.int .i64 (j : Int), .int .i64 n, .int .i64 ph] 38)).heap.size) := by
        have h1 := BW.out.size
        have h2 := AL.out.size
        show _ ≤ _
        omega
      have BA : Hid (Below w.heap.size w (wr.alloc (.cells #[.int .i64 (j : Int), .int .i64 n, .int .i64 ph] 38))) := chain BW.out AL.out
      clear hc LA AL
      generalize all[j].node = nn at *
      generalize all[j].typ = tt at *
      generalize all[j].cap = cc at *
      generalize lsB n k c all[j] = LBV at *
      generalize atF n ph k c 0 (all.take j) = xs at *
      by_cases d0 : nn = n
      · have t0 : (nn == n) = true := beq_iff_eq.2 d0
        by_cases d1 : tt = k
        · have t1 : (tt.toList == k.toList) = true := by rw [txt_beq]; exact decide_eq_true d1
          rw [decide_eq_true d0, decide_eq_true d1, Bool.true_and, Bool.true_and] at LB
          cases d2 : (cc == c) with
          | true =>
            rw [LB, d2, if_pos rfl] at ST
            clear LB d0 d1
            go_wp2_with (at_builtin; refine wpList_append_raw rfl _ _ _ rfl w.heap.size 38 iI _ 3 24 Try.underlying33 hI0 hI1 hI2 hI3 rfl (by omega) _ xs.length (cellsK xs) rfl OZ.out _ 1 _ rfl RAW.out (by simp [Value.oneCell']) (by unfold maxLen; omega) (by omega) WZ.out ?_; intro q8 k8 w8 own8 gr8 at8)
            have B8 := hide (rowGrown_below BA.out WZ.out gr8 (fun k e => (OZ.out.lt k e).1))
            have O8 : Hid (ClsO w.heap.size w8 (.slice q8 (xs.length + 1) k8) (xs ++ [((j : Int), n, ph)])) := by
              show World.ownsRow _ _ _ _ _ _ _
              rw [List.length_append, cellsK_app]
              exact own8
            clear own8 gr8 at8 OZ RAW
            go_roundw
            case rel => exact ⟨j + 1, q8, k8, by omega, by go_num, by rw [ST.out, List.length_append]; rfl, by show ClsO _ _ _ _; rw [ST.out, List.length_append]; exact O8.out, B8⟩
            case measure => simp [intOf]; omega
          | false =>
            rw [LB, d2, if_neg (by decide), List.append_nil] at ST
            clear LB d0 d1
            clear OZ RAW
            go_wp2_with fail
            go_roundw
            case rel => exact ⟨j + 1, qx, cx, by omega, by go_num, by rw [ST.out], by show ClsO _ _ _ _; rw [ST.out]; exact KX.out, BW⟩
            case measure => simp [intOf]; omega
        · have t1 : (tt.toList == k.toList) = false := by rw [txt_beq]; exact decide_eq_false d1
          rw [decide_eq_false d1, Bool.false_and, Bool.and_false] at LB
          rw [LB, if_neg (by decide), List.append_nil] at ST
          clear LB d0 d1
          clear OZ RAW
          go_wp2_with fail
          go_roundw
          case rel => exact ⟨j + 1, qx, cx, by omega, by go_num, by rw [ST.out], by show ClsO _ _ _ _; rw [ST.out]; exact KX.out, BW⟩
          case measure => simp [intOf]; omega
      · have t0 : (nn == n) = false := beq_eq_false_iff_ne.2 d0
        rw [decide_eq_false d0, Bool.false_and] at LB
        rw [LB, if_neg (by decide), List.append_nil] at ST
        clear LB d0
        clear OZ RAW
        go_wp2_with fail
        go_roundw
        case rel => exact ⟨j + 1, qx, cx, by omega, by go_num, by rw [ST.out], by show ClsO _ _ _ _; rw [ST.out]; exact KX.out, BW⟩
        case measure => simp [intOf]; omega
    · obtain rfl : j = all.length := by omega
      rw [List.take_length] at KX
      rw [List.take_length]
      go_wp2_with fail
      go_ret
      exact ⟨qx, cx, rfl, KX.out, BW.out⟩
/-- What listeners at some nodes are called, one node behind the other. -/
def flE (all : List Ls) (k : ByteArray) (ph : Int) (c : Bool) (D : List Int) : List Cl := D.flatMap fun x => atF x ph k c 0 all
theorem fl_step {all : List Ls} {k : ByteArray} {ph : Int} {c : Bool} {D : List Int} {j : Nat} (h : j < D.length) : flE all k ph c (D.take (j + 1)) = flE all k ph c (D.take j) ++ atF D[j] ph k c 0 all := by
  unfold flE
  rw [List.take_succ_eq_append_getElem h, List.flatMap_append, List.flatMap_cons, List.flatMap_nil, List.append_nil]
theorem fl_len {all : List Ls} {k : ByteArray} {ph : Int} {c : Bool} (hn : all.length ≤ 1000) : ∀ {D : List Int}, (flE all k ph c D).length ≤ D.length * 1000
  | [] => Nat.le_refl _
  | x :: D => by
    show (atF x ph k c 0 all ++ flE all k ph c D).length ≤ _
    rw [List.length_append, List.length_cons]
    have a := at_len (n := x) (ph := ph) (k := k) (c := c) (xs := all) (i := 0)
    have b := fl_len (k := k) (ph := ph) (c := c) hn (D := D)
    omega
theorem rev_step {D : List Int} {m : Nat} (h : m < D.length) : D.reverse.take (D.length - m) = D.reverse.take (D.length - (m + 1)) ++ [D[m]] := by
  have e : D.length - m = D.length - (m + 1) + 1 := by omega
  have hl : D.length - (m + 1) < D.reverse.length := by rw [List.length_reverse]; omega
  rw [e, List.take_succ_eq_append_getElem hl, List.getElem_reverse]
  congr 2
  congr 1
  omega
theorem flat_map {α β γ : Type} (f : α → β) (g : β → List γ) : ∀ L : List α, (L.map f).flatMap g = L.flatMap fun x => g (f x)
  | [] => rfl
  | x :: L => by rw [List.map_cons, List.flatMap_cons, List.flatMap_cons, flat_map f g L]
theorem calls_none {l : List Nd} {all : List Ls} {t : Int} {k : ByteArray} {b : Bool} (h : hasN l t = false) : callsP l all t k b = [] := by
  unfold callsP grpE
  rw [path_none h]
  cases b <;> rfl
theorem calls_is {l : List Nd} {all : List Ls} {t : Int} {k : ByteArray} {b : Bool} (h : hasN l t = true) : callsP l all t k b = flE all k 1 true (anc l (parI l t)).reverse ++ (atF t 2 k true 0 all ++ atF t 2 k false 0 all) ++ (if b = true then flE all k 3 false (anc l (parI l t)).reverse.reverse else []) := by
  unfold callsP grpE
  rw [path_drop h, List.dropLast_concat, if_neg (by simp), List.flatMap_append, List.flatMap_append, flat_map, List.append_assoc]
  congr 1
  congr 1
  · show _ ++ (_ ++ []) = _
    rw [List.append_nil]
    rfl
  · cases b
    · rfl
    · rw [if_pos rfl, if_pos rfl, flat_map]
      rfl
set_option maxHeartbeats 8000000 in
theorem refCalls23_any (v vl : Value) (l : List Nd) (all : List Ls) (t : Int) (k : ByteArray) (b : Bool) (w : World) (hv : NodesV w v l) (hz : DocSz l) (hl : LsV w vl all) (hn : all.length ≤ 1000) :
    Calls Try.prog 15 #[v, vl, .int .i64 t, .string k, .bool b] w fun e w' => ∃ q z, e = .returned (.slice q (callsP l all t k b).length z) ∧ ClsO w.heap.size w' (.slice q (callsP l all t k b).length z) (callsP l all t k b) ∧ Below w.heap.size w w' := by
  have HP := hide (refPath23_any v l t w hv hz)
  have HA := hide (fun n ph c W (hb : Below w.heap.size w W) => refAt23_any vl all n ph k c W (hl.below hb) (by omega))
  obtain ⟨iI, hI0, hI1, hI2, hI3⟩ := info_parts info_call
  obtain ⟨p, c, rfl, _⟩ := hv
  obtain ⟨A, hA, pl, cl, rfl, _⟩ := hl
  clear hz hA
  cases h : hasN l t with
  | false =>
    have E : Hid (callsP l all t k b = []) := calls_none h
    rw [path_none h] at HP
    clear h HA
    generalize callsP l all t k b = RES at *
    go_enter Try.func15, Try.ntmps15
    go_wp2_with fail
    refine HP.out.mono ?_
    rintro e w1 ⟨q1, z1, rfl, _, b1⟩
    go_wp2_with fail
    go_loopw [11, 14] (fun ov iv wr => ov = .slice none 0 0 ∧ iv = .int .i64 0 ∧ wr = w1) (fun _ _ _ => 0)
    case atStart => exact ⟨rfl, rfl, rfl⟩
    case round =>
      rename World => wr
      obtain ⟨rfl, rfl, ew⟩ := hrel
      obtain rfl : w1 = wr := ew.symm
      go_wp2_with fail
      go_loopw [11, 15] (fun ov iv wr => ov = .slice none 0 0 ∧ iv = .int .i64 (-2) ∧ wr = w1) (fun _ _ _ => 0)
      case atStart => exact ⟨rfl, rfl, rfl⟩
      case round =>
        rename World => wr
        obtain ⟨rfl, rfl, ew⟩ := hrel
        obtain rfl : w1 = wr := ew.symm
        go_wp2_with fail
        go_ret
        exact ⟨none, 0, by rw [E.out]; rfl, by rw [E.out]; exact World.ownsRow_nil _ _ _ _, b1⟩
  | true =>
    have E := hide (calls_is (l := l) (all := all) (t := t) (k := k) (b := b) h)
    rw [path_drop h] at HP
    have few := path_few (l := l) (t := t)
    rw [path_drop h, List.length_append] at few
    generalize (anc l (parI l t)).reverse = D at *
    have fD : D.length ≤ 399 := by simp at few; omega
    have eD : (D ++ [t]).length = D.length + 1 := by rw [List.length_append]; rfl
    rw [eD] at HP
    replace eD := hide eD
    clear h few
    generalize callsP l all t k b = RES at *
    go_enter Try.func15, Try.ntmps15
    go_wp2_with fail
    refine HP.out.mono ?_
    rintro e w1 ⟨q1, z1, rfl, K1, b1⟩
    have IV : Hid (IntsV w1 (.slice q1 (D.length + 1) z1) (D ++ [t])) := by
      have := K1.ints
      exact this
    have B1 := hide b1
    clear HP K1 b1
    go_wp2_with fail
    go_loopw [11, 14] (fun ov iv wr => ∃ (j : Nat) (q : Option Addr) (cp : Nat), j ≤ D.length ∧ iv = .int .i64 j ∧ ov = .slice q (flE all k 1 true (D.take j)).length cp ∧ Hid (ClsO w1.heap.size wr (.slice q (flE all k 1 true (D.take j)).length cp) (flE all k 1 true (D.take j))) ∧ Hid (Below w1.heap.size w1 wr)) (fun _ iv _ => D.length - (intOf iv).toNat)
    case atStart => exact ⟨0, none, 0, Nat.zero_le _, rfl, rfl, World.ownsRow_nil _ _ _ _, Below.refl _ _⟩
    case round =>
      rename World => wr
      obtain ⟨j, qx, cx, hj, rfl, rfl, KX, BW⟩ := hrel
      have BWW := hide (chain B1.out BW.out)
      by_cases g : j < D.length
      · have j1 : (j : Int) < (D.length : Int) := by omega
        have j0 : (0 : Int) ≤ (j : Int) := by omega
        have j2 : (j : Int) < (D.length : Int) + 1 := by omega
        obtain ⟨pa', ca', eva, hav⟩ := IV.out.below BW.out
        rw [eD.out] at eva
        cases eva
        obtain ⟨b2, o2, rfl, hvv⟩ := hav.resolve_left (by simp)
        have x0 := hvv j (by rw [eD.out]; omega)
        rw [List.getElem_append_left g] at x0
        have HA1 := hide (HA.out D[j] 1 true wr BWW.out)
        have ST := hide (fl_step (all := all) (k := k) (ph := 1) (c := true) g)
        have lx : (flE all k 1 true (D.take j)).length ≤ 400000 := Nat.le_trans (fl_len hn) (by rw [List.length_take]; omega)
        have ly : (atF D[j] 1 k true 0 all).length ≤ 1000 := Nat.le_trans at_len hn
        clear hav hvv HA
        generalize D[j] = x at *
        generalize atF x 1 k true 0 all = ys at *
        generalize flE all k 1 true (D.take j) = xs at *
        go_wp2_with fail
        refine HA1.out.mono ?_
        rintro e w3 ⟨q3, z3, rfl, K3, b3⟩
        clear HA1 x0
        have OZ := hide (owns_below KX.out b3)
        have RAW := hide K3.cls.raw
        have BA := hide (chain BW.out b3)
        have WZ : Hid (w1.heap.size ≤ w3.heap.size) := BA.out.size
        clear K3 b3
        go_wp2_with (at_builtin; refine wpList_append_raw rfl _ _ _ rfl w1.heap.size 38 iI _ 3 24 Try.underlying33 hI0 hI1 hI2 hI3 rfl (by omega) _ (xs).length (cellsK (xs)) rfl OZ.out _ (ys).length (cellsK (ys)) rfl RAW.out cellsK_one (by unfold maxLen; omega) (by omega) WZ.out ?_; intro q8 k8 w8 own8 gr8 at8)
        have B8 := hide (rowGrown_below BA.out WZ.out gr8 (fun k e => (OZ.out.lt k e).1))
        have O8 : Hid (ClsO w1.heap.size w8 (.slice q8 ((xs).length + (ys).length) k8) (xs ++ ys)) := by
          show World.ownsRow _ _ _ _ _ _ _
          rw [List.length_append, cellsK_app]
          exact own8
        clear own8 gr8 at8 OZ RAW WZ BA
        go_roundw
        case rel => exact ⟨j + 1, q8, k8, by omega, by go_num, by rw [ST.out, List.length_append], by show ClsO _ _ _ _; rw [ST.out, List.length_append]; exact O8.out, B8⟩
        case measure => simp [intOf]; omega
      · obtain rfl : j = D.length := by omega
        rw [List.take_length] at KX
        rw [List.take_length]
        have lx : (flE all k 1 true D).length ≤ 400000 := Nat.le_trans (fl_len hn) (by omega)
        have ly : (atF t 2 k true 0 all).length ≤ 1000 := Nat.le_trans at_len hn
        have lz : (atF t 2 k false 0 all).length ≤ 1000 := Nat.le_trans at_len hn
        have HA1 := hide (fun W hb => HA.out t 2 true W hb)
        have HA2 := hide (fun W hb => HA.out t 2 false W hb)
        have T3 : Hid (∀ D, (flE all k 3 false D).length ≤ D.length * 1000) := fun D => fl_len hn
        have S3 : Hid (∀ m (h : m < D.length), flE all k 3 false (D.reverse.take (D.length - m)) = flE all k 3 false (D.reverse.take (D.length - (m + 1))) ++ atF D[m] 3 k false 0 all) := fun m h => by
          rw [rev_step h]
          unfold flE
          rw [List.flatMap_append, List.flatMap_cons, List.flatMap_nil, List.append_nil]
        have d0 : (0 : Int) ≤ (D.length : Int) := by omega
        have d1 : ¬ (D.length : Int) < (D.length : Int) := by omega
        have d2 : (0 : Int) < (D.length : Int) + 1 := by omega
        have d3 : (D.length : Int) ≤ 399 := by omega
        generalize flE all k 1 true D = xs at *
        generalize atF t 2 k true 0 all = ys at *
        generalize atF t 2 k false 0 all = zs at *
        go_wp2_with fail
        refine (HA1.out _ BWW.out).mono ?_
        rintro e w3 ⟨q3, z3, rfl, K3, b3⟩
        clear HA1
        have OZ := hide (owns_below KX.out b3)
        have RAW := hide K3.cls.raw
        have BA := hide (chain BW.out b3)
        have WZ : Hid (w1.heap.size ≤ w3.heap.size) := BA.out.size
        clear K3 b3
        go_wp2_with (at_builtin; refine wpList_append_raw rfl _ _ _ rfl w1.heap.size 38 iI _ 3 24 Try.underlying33 hI0 hI1 hI2 hI3 rfl (by omega) _ (xs).length (cellsK (xs)) rfl OZ.out _ (ys).length (cellsK (ys)) rfl RAW.out cellsK_one (by unfold maxLen; omega) (by omega) WZ.out ?_; intro q8 k8 w8 own8 gr8 at8)
        have B8 := hide (rowGrown_below BA.out WZ.out gr8 (fun k e => (OZ.out.lt k e).1))
        have O8 : Hid (ClsO w1.heap.size w8 (.slice q8 ((xs).length + (ys).length) k8) (xs ++ ys)) := by
          show World.ownsRow _ _ _ _ _ _ _
          rw [List.length_append, cellsK_app]
          exact own8
        clear own8 gr8 at8 OZ RAW WZ BA
        have BWW1 := hide (chain B1.out B8.out)
        have lxy : (xs ++ ys).length = xs.length + ys.length := List.length_append
        have lxx : (xs ++ ys).length ≤ 401000 := by rw [lxy]; omega
        rw [← lxy] at O8 ⊢
        have E1 : Hid (RES = (xs ++ ys) ++ zs ++ (if b = true then flE all k 3 false D.reverse else [])) := by show _ = _; rw [E.out]; simp only [List.append_assoc]
        clear lxy E lx ly
        generalize xs ++ ys = xy at *
        refine (HA2.out _ BWW1.out).mono ?_
        rintro e w4 ⟨q4, z4, rfl, K4, b4⟩
        clear HA2
        have OZ := hide (owns_below O8.out b4)
        have RAW := hide K4.cls.raw
        have BA := hide (chain B8.out b4)
        have WZ : Hid (w1.heap.size ≤ w4.heap.size) := BA.out.size
        clear K4 b4
        go_wp2_with (at_builtin; refine wpList_append_raw rfl _ _ _ rfl w1.heap.size 38 iI _ 3 24 Try.underlying33 hI0 hI1 hI2 hI3 rfl (by omega) _ (xy).length (cellsK (xy)) rfl OZ.out _ (zs).length (cellsK (zs)) rfl RAW.out cellsK_one (by unfold maxLen; omega) (by omega) WZ.out ?_; intro q9 k9 w9 own9 gr9 at9)
        have B9 := hide (rowGrown_below BA.out WZ.out gr9 (fun k e => (OZ.out.lt k e).1))
        have O9 : Hid (ClsO w1.heap.size w9 (.slice q9 ((xy).length + (zs).length) k9) (xy ++ zs)) := by
          show World.ownsRow _ _ _ _ _ _ _
          rw [List.length_append, cellsK_app]
          exact own9
        clear own9 gr9 at9 OZ RAW WZ BA
        have e9 : (xy ++ zs).length = xy.length + zs.length := List.length_append
        have l9 : (xy ++ zs).length ≤ 402000 := by rw [e9]; omega
        have E2 := E1
        rw [← e9] at O9 ⊢
        clear e9 lxx KX BW BWW BWW1 O8 B8 E1 lz
        generalize xy ++ zs = us at *
        cases b with
        | false =>
          replace E2 : Hid (RES = us) := by show _ = _; rw [E2.out, if_neg (by decide), List.append_nil]
          clear S3 T3 HA
          go_loopw [11, 15] (fun ov iv wr => ov = .slice q9 us.length k9 ∧ iv = .int .i64 ((D.length : Int) - 1) ∧ wr = w9) (fun _ _ _ => 0)
          case atStart => exact ⟨rfl, by go_num, rfl⟩
          case round =>
            rename World => wr
            obtain ⟨rfl, rfl, ew⟩ := hrel
            obtain rfl : w9 = wr := ew.symm
            go_wp2_with fail
            all_goals
              go_ret
              exact ⟨q9, k9, by rw [E2.out]; rfl, by rw [E2.out]; exact owns_mono O9.out B1.out.size, chain B1.out B9.out⟩
        | true =>
          go_loopw [11, 15] (fun ov iv wr => ∃ (m : Nat) (q : Option Addr) (cp : Nat), m ≤ D.length ∧ iv = .int .i64 ((m : Int) - 1) ∧ ov = .slice q (us ++ flE all k 3 false (D.reverse.take (D.length - m))).length cp ∧ Hid (ClsO w1.heap.size wr (.slice q (us ++ flE all k 3 false (D.reverse.take (D.length - m))).length cp) (us ++ flE all k 3 false (D.reverse.take (D.length - m)))) ∧ Hid (Below w1.heap.size w1 wr)) (fun _ iv _ => ((intOf iv) + 1).toNat)
          case atStart => exact ⟨D.length, q9, k9, Nat.le_refl _, by go_num, by rw [Nat.sub_self, List.take_zero]; show _ = Value.slice q9 (us ++ []).length k9; rw [List.append_nil], by rw [Nat.sub_self, List.take_zero]; show Hid (ClsO w1.heap.size w9 (.slice q9 (us ++ []).length k9) (us ++ [])); rw [List.append_nil]; exact O9, B9⟩
          case round =>
            rename World => wr
            obtain ⟨m, qy, cy, hm, rfl, rfl, KY, BY⟩ := hrel
            clear O9 B9
            have BYY := hide (chain B1.out BY.out)
            cases m with
            | zero =>
              rw [show D.length - 0 = D.reverse.length by rw [List.length_reverse]; rfl, List.take_length] at KY
              rw [show D.length - 0 = D.reverse.length by rw [List.length_reverse]; rfl, List.take_length]
              replace E2 : Hid (us ++ flE all k 3 false D.reverse = RES) := by show _ = _; rw [E2.out, if_pos rfl]
              rw [E2.out] at KY
              rw [E2.out]
              clear E2 S3 T3 HA
              go_wp2_with fail
              go_ret
              exact ⟨qy, cy, rfl, owns_mono KY.out B1.out.size, BYY.out⟩
            | succ m =>
              have em : ((m + 1 : Nat) : Int) - 1 = (m : Int) := by omega
              rw [em]
              have hmD : m < D.length := by omega
              have m0 : (0 : Int) ≤ (m : Int) := by omega
              have m1 : (m : Int) < (D.length : Int) + 1 := by omega
              obtain ⟨pa', ca', eva, hav⟩ := IV.out.below BY.out
              rw [eD.out] at eva
              cases eva
              obtain ⟨b2, o2, rfl, hvv⟩ := hav.resolve_left (by simp)
              have x0 := hvv m (by rw [eD.out]; omega)
              rw [List.getElem_append_left hmD] at x0
              have HA3 := hide (HA.out D[m] 3 false wr BYY.out)
              have ST := hide (S3.out m hmD)
              have lx : (us ++ flE all k 3 false (D.reverse.take (D.length - (m + 1)))).length ≤ 900000 := by
                have := T3.out (D.reverse.take (D.length - (m + 1)))
                rw [List.length_take, List.length_reverse] at this
                rw [List.length_append]
                omega
              have ly : (atF D[m] 3 k false 0 all).length ≤ 1000 := Nat.le_trans at_len hn
              have ST2 : Hid (us ++ flE all k 3 false (D.reverse.take (D.length - m)) = (us ++ flE all k 3 false (D.reverse.take (D.length - (m + 1)))) ++ atF D[m] 3 k false 0 all) := by show _ = _; rw [ST.out, List.append_assoc]
              clear hav hvv HA S3 T3 ST em
              generalize D[m] = x at *
              generalize atF x 3 k false 0 all = vs at *
              generalize us ++ flE all k 3 false (D.reverse.take (D.length - (m + 1))) = ts at *
              go_wp2_with fail
              refine HA3.out.mono ?_
              rintro e w3 ⟨q3, z3, rfl, K3, b3⟩
              clear HA3 x0
              have OZ := hide (owns_below KY.out b3)
              have RAW := hide K3.cls.raw
              have BA := hide (chain BY.out b3)
              have WZ : Hid (w1.heap.size ≤ w3.heap.size) := BA.out.size
              clear K3 b3
              go_wp2_with (at_builtin; refine wpList_append_raw rfl _ _ _ rfl w1.heap.size 38 iI _ 3 24 Try.underlying33 hI0 hI1 hI2 hI3 rfl (by omega) _ (ts).length (cellsK (ts)) rfl OZ.out _ (vs).length (cellsK (vs)) rfl RAW.out cellsK_one (by unfold maxLen; omega) (by omega) WZ.out ?_; intro q8 k8 w8 own8 gr8 at8)
              have B8 := hide (rowGrown_below BA.out WZ.out gr8 (fun k e => (OZ.out.lt k e).1))
              have O8 : Hid (ClsO w1.heap.size w8 (.slice q8 ((ts).length + (vs).length) k8) (ts ++ vs)) := by
                show World.ownsRow _ _ _ _ _ _ _
                rw [List.length_append, cellsK_app]
                exact own8
              clear own8 gr8 at8 OZ RAW WZ BA
              go_roundw
              case rel => exact ⟨m, q8, k8, by omega, by go_num, by rw [ST2.out, List.length_append], by show ClsO _ _ _ _; rw [ST2.out, List.length_append]; exact O8.out, B8⟩
              case measure => simp [intOf]
end Go.Proofs.Ytmobcijigiacoaa

namespace Go.Proofs.Ytmobcijigiacoaa
open Go.RowKit
set_option maxRecDepth 100000
set_option maxHeartbeats 8000000 in
theorem eventCalls_walk (v vl : Value) (l : List Nd) (all : List Ls) (t : Int) (k : ByteArray) (b : Bool) (w : World) (hv : NodesV w v l) (hz : DocSz l) (hl : LsV w vl all) (hn : all.length ≤ 2513169434917) (hT : EvTabs w) :
    Calls Try.prog 4 #[v, vl, .agg #[.int .i64 t, .string k, .bool b]] w fun e w' => e = .returned (.bool true) ∧ Below w.heap.size w w' := by
  have B0 : Hid (Below w.heap.size w (w.alloc (.cells #[.int .i64 t, .string k, .bool b] 31))) := (Below.refl _ w).alloc (Nat.le_refl _) _
  have K0 : Hid (Bk (w.alloc (.cells #[.int .i64 t, .string k, .bool b] 31)) w.heap.size [.int .i64 t, .string k, .bool b] 31) := Bk.new w _ _
  have HW := hide (evWakes_any (w.alloc (.cells #[.int .i64 t, .string k, .bool b] 31)) (hT.below B0.out))
  have HC := hide (fun W (hb : Below w.heap.size w W) => refCopied_any v l W (hv.below hb) hz)
  have HL := hide hl
  by_cases h2 : all.length ≤ 200
  · have H1 := hide (fun u ul W (hb : Below w.heap.size w W) (hu : NodesV W u l) (hul : LsV W ul all) => evCalls_any u ul l all t k b W hu hz hul (by omega) (hT.below hb))
    have H2 := hide (fun W (hb : Below w.heap.size w W) => refCalls23_any v vl l all t k b W (hv.below hb) hz (hl.below hb) (by omega))
    have FEW : (callsP l all t k b).length ≤ 1000000 := Nat.le_trans calls_len (by omega)
    generalize callsP l all t k b = cs at *
    have H5 := hide (fun va vb W (ha : ClsV W va cs) (hb : ClsV W vb cs) => refSame23_yes va vb cs W ha hb FEW)
    obtain ⟨p, c, rfl⟩ : ∃ p k, v = .slice p l.length k := by obtain ⟨p, k, e, _⟩ := hv; exact ⟨p, k, e⟩
    obtain ⟨A, hA, pl, cl, rfl, _⟩ := hl
    obtain ⟨iL, hL0, hL1, hL2, hL3⟩ := info_parts info_lst
    have i2 : ¬ (200 : Int) < (all.length : Int) := by omega
    clear hv hz hT hA
    go_enter Try.func4, Try.ntmps4
    go_wp2_with fail
    refine HW.out.mono ?_
    rintro e w1 ⟨rfl, b1⟩
    have B1 := hide (chain B0.out b1)
    replace K0 := hide (K0.out.below b1)
    clear b1 B0 HW
    go_wp2_with fail
    have DR : Below w1.heap.size w1 w1.drew := ⟨rfl, rfl, rfl, Nat.le_refl _, fun _ _ => rfl⟩
    have K1 := hide (K0.out.below DR)
    have B2 := hide (chain B1.out DR)
    clear DR B1
    refine wp_region_held_drew (S := fun X : World => X.cell? ⟨w.heap.size, 0, none⟩ = some (.int .i64 t) ∧ X.cell? ⟨w.heap.size, 1, none⟩ = some (.string k) ∧ X.cell? ⟨w.heap.size, 2, none⟩ = some (.bool b)) (by kernel_rfl) ?_ (fun hHeld => ?_)
    · exact ⟨K0.out.cell 0 rfl, K0.out.cell 1 rfl, K0.out.cell 2 rfl⟩
    have LT1 : w.heap.size < w1.drew.heap.size := K1.out.lt
    clear K0
    refine wpAnyH_take (i := 0) (oi := { dst := some 12, op := Op.move (Operand.tmp 0), type := 22, pos := "law.go:42", after := #[], guard := none }) (v := ?_) rfl (by kernel_rfl) (by kernel_rfl) (by kernel_rfl) (fun _ _ _ h => h) (Or.inl ⟨by rfl, ?_⟩) (by assumption) ?_
    rotate_left
    · (intro w hSw; (try dsimp only at hSw); first | (go_simp; done) | (go_simp; with_reducible rfl))
    simp only [Act.put, List.setIfInBounds_toArray, List.set_cons_zero, List.set_cons_succ]
    refine wpAnyH_take (i := 3) (oi := { dst := some 15, op := Op.move (Operand.tmp 1), type := 29, pos := "law.go:42", after := #[], guard := none }) (v := ?_) rfl (by kernel_rfl) (by kernel_rfl) (by kernel_rfl) (fun _ _ _ h => h) (Or.inl ⟨by rfl, ?_⟩) (by assumption) ?_
    rotate_left
    · (intro w hSw; (try dsimp only at hSw); first | (go_simp; done) | (go_simp; with_reducible rfl))
    simp only [Act.put, List.setIfInBounds_toArray, List.set_cons_zero, List.set_cons_succ]
    refine wpAnyH_take (i := 5) (oi := { dst := some 17, op := Op.fieldAddr 31 (Operand.tmp 5) 0, type := 0, pos := "law.go:42", after := #[], guard := none }) (v := ?_) rfl (by kernel_rfl) (by kernel_rfl) (by kernel_rfl) (fun _ _ _ h => h) (Or.inl ⟨by rfl, ?_⟩) (by assumption) ?_
    rotate_left
    · (intro w hSw; (try dsimp only at hSw); first | (go_simp; done) | (go_simp; with_reducible rfl))
    simp only [Act.put, List.setIfInBounds_toArray, List.set_cons_zero, List.set_cons_succ]
    refine wpAnyH_take (i := 6) (oi := { dst := some 18, op := Op.load 3 (Operand.tmp 17), type := 3, pos := "law.go:42", after := #[{ on := 5, ground := Ground.data }], guard := none }) (v := ?_) rfl (by kernel_rfl) (by kernel_rfl) (by kernel_rfl) (fun _ _ _ h => h) (Or.inl ⟨by rfl, ?_⟩) (by assumption) ?_
    rotate_left
    · (intro w hSw; (try dsimp only at hSw); first | (go_simp; done) | (go_simp; with_reducible rfl))
    simp only [Act.put, List.setIfInBounds_toArray, List.set_cons_zero, List.set_cons_succ]
    refine wpAnyH_take (i := 7) (oi := { dst := some 19, op := Op.fieldAddr 31 (Operand.tmp 5) 1, type := 0, pos := "law.go:42", after := #[], guard := none }) (v := ?_) rfl (by kernel_rfl) (by kernel_rfl) (by kernel_rfl) (fun _ _ _ h => h) (Or.inl ⟨by rfl, ?_⟩) (by assumption) ?_
    rotate_left
    · (intro w hSw; (try dsimp only at hSw); first | (go_simp; done) | (go_simp; with_reducible rfl))
    simp only [Act.put, List.setIfInBounds_toArray, List.set_cons_zero, List.set_cons_succ]
    refine wpAnyH_take (i := 8) (oi := { dst := some 20, op := Op.load 9 (Operand.tmp 19), type := 9, pos := "law.go:42", after := #[{ on := 7, ground := Ground.data }], guard := none }) (v := ?_) rfl (by kernel_rfl) (by kernel_rfl) (by kernel_rfl) (fun _ _ _ h => h) (Or.inl ⟨by rfl, ?_⟩) (by assumption) ?_
    rotate_left
    · (intro w hSw; (try dsimp only at hSw); first | (go_simp; done) | (go_simp; with_reducible rfl))
    simp only [Act.put, List.setIfInBounds_toArray, List.set_cons_zero, List.set_cons_succ]
    refine wpAnyH_take (i := 9) (oi := { dst := some 21, op := Op.fieldAddr 31 (Operand.tmp 5) 2, type := 0, pos := "law.go:42", after := #[], guard := none }) (v := ?_) rfl (by kernel_rfl) (by kernel_rfl) (by kernel_rfl) (fun _ _ _ h => h) (Or.inl ⟨by rfl, ?_⟩) (by assumption) ?_
    rotate_left
    · (intro w hSw; (try dsimp only at hSw); first | (go_simp; done) | (go_simp; with_reducible rfl))
    simp only [Act.put, List.setIfInBounds_toArray, List.set_cons_zero, List.set_cons_succ]
    refine wpAnyH_take (i := 10) (oi := { dst := some 22, op := Op.load 4 (Operand.tmp 21), type := 4, pos := "law.go:42", after := #[{ on := 9, ground := Ground.data }], guard := none }) (v := ?_) rfl (by kernel_rfl) (by kernel_rfl) (by kernel_rfl) (fun _ _ _ h => h) (Or.inl ⟨by rfl, ?_⟩) (by assumption) ?_
    rotate_left
    · (intro w hSw; (try dsimp only at hSw); first | (go_simp; done) | (go_simp; with_reducible rfl))
    simp only [Act.put, List.setIfInBounds_toArray, List.set_cons_zero, List.set_cons_succ]
    refine wpAnyH_take (i := 12) (oi := { dst := some 24, op := Op.move (Operand.tmp 0), type := 22, pos := "law.go:42", after := #[], guard := none }) (v := ?_) rfl (by kernel_rfl) (by kernel_rfl) (by kernel_rfl) (fun _ _ _ h => h) (Or.inl ⟨by rfl, ?_⟩) (by assumption) ?_
    rotate_left
    · (intro w hSw; (try dsimp only at hSw); first | (go_simp; done) | (go_simp; with_reducible rfl))
    simp only [Act.put, List.setIfInBounds_toArray, List.set_cons_zero, List.set_cons_succ]
    refine wpAnyH_take (i := 13) (oi := { dst := some 25, op := Op.move (Operand.tmp 1), type := 29, pos := "law.go:42", after := #[], guard := none }) (v := ?_) rfl (by kernel_rfl) (by kernel_rfl) (by kernel_rfl) (fun _ _ _ h => h) (Or.inl ⟨by rfl, ?_⟩) (by assumption) ?_
    rotate_left
    · (intro w hSw; (try dsimp only at hSw); first | (go_simp; done) | (go_simp; with_reducible rfl))
    simp only [Act.put, List.setIfInBounds_toArray, List.set_cons_zero, List.set_cons_succ]
    refine wpAnyH_take (i := 14) (oi := { dst := some 26, op := Op.fieldAddr 31 (Operand.tmp 5) 0, type := 0, pos := "law.go:42", after := #[], guard := none }) (v := ?_) rfl (by kernel_rfl) (by kernel_rfl) (by kernel_rfl) (fun _ _ _ h => h) (Or.inl ⟨by rfl, ?_⟩) (by assumption) ?_
    rotate_left
    · (intro w hSw; (try dsimp only at hSw); first | (go_simp; done) | (go_simp; with_reducible rfl))
    simp only [Act.put, List.setIfInBounds_toArray, List.set_cons_zero, List.set_cons_succ]
    refine wpAnyH_take (i := 15) (oi := { dst := some 27, op := Op.load 3 (Operand.tmp 26), type := 3, pos := "law.go:42", after := #[{ on := 14, ground := Ground.data }], guard := none }) (v := ?_) rfl (by kernel_rfl) (by kernel_rfl) (by kernel_rfl) (fun _ _ _ h => h) (Or.inl ⟨by rfl, ?_⟩) (by assumption) ?_
    rotate_left
    · (intro w hSw; (try dsimp only at hSw); first | (go_simp; done) | (go_simp; with_reducible rfl))
    simp only [Act.put, List.setIfInBounds_toArray, List.set_cons_zero, List.set_cons_succ]
    refine wpAnyH_take (i := 16) (oi := { dst := some 28, op := Op.fieldAddr 31 (Operand.tmp 5) 1, type := 0, pos := "law.go:42", after := #[], guard := none }) (v := ?_) rfl (by kernel_rfl) (by kernel_rfl) (by kernel_rfl) (fun _ _ _ h => h) (Or.inl ⟨by rfl, ?_⟩) (by assumption) ?_
    rotate_left
    · (intro w hSw; (try dsimp only at hSw); first | (go_simp; done) | (go_simp; with_reducible rfl))
    simp only [Act.put, List.setIfInBounds_toArray, List.set_cons_zero, List.set_cons_succ]
    refine wpAnyH_take (i := 17) (oi := { dst := some 29, op := Op.load 9 (Operand.tmp 28), type := 9, pos := "law.go:42", after := #[{ on := 16, ground := Ground.data }], guard := none }) (v := ?_) rfl (by kernel_rfl) (by kernel_rfl) (by kernel_rfl) (fun _ _ _ h => h) (Or.inl ⟨by rfl, ?_⟩) (by assumption) ?_
    rotate_left
    · (intro w hSw; (try dsimp only at hSw); first | (go_simp; done) | (go_simp; with_reducible rfl))
    simp only [Act.put, List.setIfInBounds_toArray, List.set_cons_zero, List.set_cons_succ]
    refine wpAnyH_take (i := 18) (oi := { dst := some 30, op := Op.fieldAddr 31 (Operand.tmp 5) 2, type := 0, pos := "law.go:42", after := #[], guard := none }) (v := ?_) rfl (by kernel_rfl) (by kernel_rfl) (by kernel_rfl) (fun _ _ _ h => h) (Or.inl ⟨by rfl, ?_⟩) (by assumption) ?_
    rotate_left
    · (intro w hSw; (try dsimp only at hSw); first | (go_simp; done) | (go_simp; with_reducible rfl))
    simp only [Act.put, List.setIfInBounds_toArray, List.set_cons_zero, List.set_cons_succ]
    refine wpAnyH_take (i := 19) (oi := { dst := some 31, op := Op.load 4 (Operand.tmp 30), type := 4, pos := "law.go:42", after := #[{ on := 18, ground := Ground.data }], guard := none }) (v := ?_) rfl (by kernel_rfl) (by kernel_rfl) (by kernel_rfl) (fun _ _ _ h => h) (Or.inl ⟨by rfl, ?_⟩) (by assumption) ?_
    rotate_left
    · (intro w hSw; (try dsimp only at hSw); first | (go_simp; done) | (go_simp; with_reducible rfl))
    simp only [Act.put, List.setIfInBounds_toArray, List.set_cons_zero, List.set_cons_succ]
    refine wpAnyH_ready (rs := [1, 2]) (by kernel_rfl) (by simp) ?_
    refine AllReadyH.cons (i := 1) (o := { dst := some 13, op := Op.call { callee := Callee.value (Operand.func 11), args := #[Operand.tmp 12], argTypes := #[22] }, type := 22, pos := "law.go:42", after := #[{ on := 0, ground := Ground.data }], guard := none }) rfl (fun K hK => ?_) (AllReadyH.cons (i := 2) (o := { dst := some 14, op := Op.buildSlice 29 0 #[], type := 29, pos := "law.go:42", after := #[], guard := none }) rfl (fun K hK => ?_) AllReadyH.nil)
    · go_simp
      refine (HC.out _ B2.out).mono ?_
      rintro e w2 ⟨v2, L2, rfl, o2, e2, b2⟩
      have N2 : Hid (NodesV w2 v2 l) := by show NodesV _ _ _; rw [← e2]; exact o2.nodes
      obtain ⟨p2, k2, rfl⟩ : ∃ p k, v2 = .slice p l.length k := by obtain ⟨p, k, e, _⟩ := N2.out; exact ⟨p, k, e⟩
      have LT2 : w.heap.size < w2.heap.size := Nat.lt_of_lt_of_le LT1 b2.size
      have B3 := hide (chain B2.out b2)
      replace K1 := hide (K1.out.below b2)
      clear o2 e2 b2 HC B2
      go_wp2_with fail
      refine hK.out _ _ ?_ (fun hHeld => ?_)
      · exact ⟨K1.out.cell 0 rfl, K1.out.cell 1 rfl, K1.out.cell 2 rfl⟩
      clear hK K
      refine wpAnyH_ready (rs := [2]) (by kernel_rfl) (by simp) ?_
      refine AllReadyH.cons (i := 2) (o := { dst := some 14, op := Op.buildSlice 29 0 #[], type := 29, pos := "law.go:42", after := #[], guard := none }) rfl (fun K hK => ?_) AllReadyH.nil
      go_simp
      have AE : Below w2.heap.size w2 (w2.alloc (.cells #[] 41)) := (Below.refl _ _).alloc (Nat.le_refl _) _
      have OE : Hid ((w2.alloc (.cells #[] 41)).ownsRow w2.heap.size 41 4 (.slice (some ⟨w2.heap.size, 0, none⟩) 0 0) 0 []) := ls_made (by omega)
      replace K1 := hide (K1.out.below AE)
      have B4 := hide (chain B3.out AE)
      clear AE
      refine hK.out _ _ ?_ (fun hHeld => ?_)
      · exact ⟨K1.out.cell 0 rfl, K1.out.cell 1 rfl, K1.out.cell 2 rfl⟩
      clear hK K
      refine wpAnyH_ready (rs := [4]) (by kernel_rfl) (by simp) ?_
      refine AllReadyH.cons (i := 4) (o := { dst := some 16, op := Op.call { callee := Callee.builtin Builtin.append, args := #[Operand.tmp 14, Operand.tmp 15], argTypes := #[29, 29] }, type := 29, pos := "law.go:42", after := #[{ on := 2, ground := Ground.data }, { on := 3, ground := Ground.data }, { on := 1, ground := Ground.chain }], guard := none }) rfl (fun K hK => ?_) AllReadyH.nil
      have RW := hide ((HL.out.choose_spec.below B4.out).raw)
      have AOK := hide HL.out.choose_spec.1
      refine step_append_raw rfl _ _ _ rfl w2.heap.size 41 iL _ 4 56 Try.underlying29 hL0 hL1 hL2 hL3 rfl (by omega) _ 0 [] rfl OE.out _ all.length _ rfl RW.out (cellsL_one AOK.out) (by unfold maxLen; omega) (by omega) (Nat.le_of_lt (OE.out.lt _ rfl).2) ?_
      intro q8 k8 w8 own8 gr8 at8
      rw [Nat.zero_add, List.nil_append] at own8
      rw [Nat.zero_add]
      have LS8 : Hid (LsV w8 (.slice q8 all.length k8) all) := ⟨_, (LsO.mk AOK.out own8).lsv⟩
      have EW : w.heap.size < w2.heap.size := LT2
      have B8 : Hid (Below w.heap.size w w8) := rowGrown_below B4.out B4.out.size gr8 (fun k e => by cases e; exact Nat.le_of_lt EW)
      have N8 : Hid (NodesV w8 (.slice p2 l.length k2) l) := N2.out.below (rowGrown_below ((Below.refl _ w2).alloc (Nat.le_refl _) _) (by simp) gr8 (fun k e => by cases e; exact Nat.le_refl _))
      replace K1 : Hid (Bk w8 w.heap.size [.int .i64 t, .string k, .bool b] 31) := ⟨((Chg.of_grown gr8).block _ K1.out.lt (fun q => by have h2 : w2.heap.size = w.heap.size := Option.some.inj (opt_mem.1 q); omega)).trans K1.out.lies⟩
      clear own8 gr8 at8 RW AOK OE N2 EW B4
      refine hK.out _ _ ?_ (fun hHeld => ?_)
      · exact ⟨K1.out.cell 0 rfl, K1.out.cell 1 rfl, K1.out.cell 2 rfl⟩
      clear hK K
      refine wpAnyH_ready (rs := [11]) (by kernel_rfl) (by simp) ?_
      refine AllReadyH.cons (i := 11) (o := { dst := some 23, op := Op.call { callee := Callee.value (Operand.func 14), args := #[Operand.tmp 13, Operand.tmp 16, Operand.tmp 18, Operand.tmp 20, Operand.tmp 22], argTypes := #[22, 29, 3, 9, 4] }, type := 33, pos := "law.go:42", after := #[{ on := 1, ground := Ground.data }, { on := 4, ground := Ground.data }, { on := 6, ground := Ground.data }, { on := 8, ground := Ground.data }, { on := 10, ground := Ground.data }, { on := 4, ground := Ground.chain }], guard := none }) rfl (fun K hK => ?_) AllReadyH.nil
      go_simp
      refine (H1.out _ _ _ B8.out N8.out LS8.out).mono ?_
      rintro e w9 ⟨v9, rfl, c9, b9⟩
      have B9 := hide (chain B8.out b9)
      replace K1 := hide (K1.out.below b9)
      have C9 := hide c9
      obtain ⟨p9, k9, rfl, _⟩ := c9
      clear b9 B8 N8 LS8 H1
      go_wp2_with fail
      refine hK.out _ _ ?_ (fun hHeld => ?_)
      · exact ⟨K1.out.cell 0 rfl, K1.out.cell 1 rfl, K1.out.cell 2 rfl⟩
      clear hK K
      refine wpAnyH_ready (rs := [20]) (by kernel_rfl) (by simp) ?_
      refine AllReadyH.cons (i := 20) (o := { dst := some 32, op := Op.call { callee := Callee.value (Operand.func 15), args := #[Operand.tmp 24, Operand.tmp 25, Operand.tmp 27, Operand.tmp 29, Operand.tmp 31], argTypes := #[22, 29, 3, 9, 4] }, type := 33, pos := "law.go:42", after := #[{ on := 12, ground := Ground.data }, { on := 13, ground := Ground.data }, { on := 15, ground := Ground.data }, { on := 17, ground := Ground.data }, { on := 19, ground := Ground.data }, { on := 11, ground := Ground.chain }], guard := none }) rfl (fun K hK => ?_) AllReadyH.nil
      go_simp
      refine (H2.out _ B9.out).mono ?_
      rintro e wa ⟨qa, za, rfl, ca, ba⟩
      have BA := hide (chain B9.out ba)
      replace K1 := hide (K1.out.below ba)
      have CB := hide (C9.out.below ba)
      have CA := hide ca.cls
      clear ba ca B9 C9 H2
      go_wp2_with fail
      refine hK.out _ _ ?_ (fun hHeld => ?_)
      · exact ⟨K1.out.cell 0 rfl, K1.out.cell 1 rfl, K1.out.cell 2 rfl⟩
      clear hK K
      refine wpAnyH_ready (rs := [21]) (by kernel_rfl) (by simp) ?_
      refine AllReadyH.cons (i := 21) (o := { dst := some 33, op := Op.call { callee := Callee.value (Operand.func 13), args := #[Operand.tmp 23, Operand.tmp 32], argTypes := #[33, 33] }, type := 4, pos := "law.go:42", after := #[{ on := 11, ground := Ground.data }, { on := 20, ground := Ground.data }, { on := 20, ground := Ground.chain }], guard := none }) rfl (fun K hK => ?_) AllReadyH.nil
      go_simp
      refine (H5.out _ _ _ CB.out CA.out).mono ?_
      rintro e wb ⟨rfl, bb⟩
      have BB := hide (chain BA.out bb)
      replace K1 := hide (K1.out.below bb)
      clear bb BA CB CA H5
      go_wp2_with fail
      refine hK.out _ _ ?_ (fun hHeld => ?_)
      · exact ⟨K1.out.cell 0 rfl, K1.out.cell 1 rfl, K1.out.cell 2 rfl⟩
      clear hK K
      refine wpAnyH_take (i := 22) (oi := { dst := some 6, op := Op.assign (Operand.tmp 33), type := 4, pos := "law.go:42", after := #[{ on := 21, ground := Ground.data }, { on := 21, ground := Ground.chain }, { on := 0, ground := Ground.phase }, { on := 1, ground := Ground.phase }, { on := 2, ground := Ground.phase }, { on := 3, ground := Ground.phase }, { on := 4, ground := Ground.phase }, { on := 5, ground := Ground.phase }, { on := 6, ground := Ground.phase }, { on := 7, ground := Ground.phase }, { on := 8, ground := Ground.phase }, { on := 9, ground := Ground.phase }, { on := 10, ground := Ground.phase }, { on := 11, ground := Ground.phase }, { on := 12, ground := Ground.phase }, { on := 13, ground := Ground.phase }, { on := 14, ground := Ground.phase }, { on := 15, ground := Ground.phase }, { on := 16, ground := Ground.phase }, { on := 17, ground := Ground.phase }, { on := 18, ground := Ground.phase }, { on := 19, ground := Ground.phase }, { on := 20, ground := Ground.phase }, { on := 21, ground := Ground.phase }], guard := none }) (v := ?_) rfl (by kernel_rfl) (by kernel_rfl) (by kernel_rfl) (fun _ _ _ h => h) (Or.inl ⟨by rfl, ?_⟩) (by assumption) ?_
      rotate_left
      · (intro w hSw; (try dsimp only at hSw); first | (go_simp; done) | (go_simp; with_reducible rfl))
      simp only [Act.put, List.setIfInBounds_toArray, List.set_cons_zero, List.set_cons_succ]
      refine wpAnyH_done (by kernel_rfl) ?_ _
      go_wp2_with fail
      go_ret
      exact ⟨rfl, BB.out⟩
    · go_simp
      have AE : Below w1.drew.heap.size w1.drew (w1.drew.alloc (.cells #[] 41)) := (Below.refl _ _).alloc (Nat.le_refl _) _
      have OE : Hid ((w1.drew.alloc (.cells #[] 41)).ownsRow w1.drew.heap.size 41 4 (.slice (some ⟨w1.drew.heap.size, 0, none⟩) 0 0) 0 []) := ls_made (by omega)
      replace K1 := hide (K1.out.below AE)
      have BE := hide (chain B2.out AE)
      clear AE
      refine hK.out _ _ ?_ (fun hHeld => ?_)
      · exact ⟨K1.out.cell 0 rfl, K1.out.cell 1 rfl, K1.out.cell 2 rfl⟩
      clear hK K
      refine wpAnyH_ready (rs := [1]) (by kernel_rfl) (by simp) ?_
      refine AllReadyH.cons (i := 1) (o := { dst := some 13, op := Op.call { callee := Callee.value (Operand.func 11), args := #[Operand.tmp 12], argTypes := #[22] }, type := 22, pos := "law.go:42", after := #[{ on := 0, ground := Ground.data }], guard := none }) rfl (fun K hK => ?_) AllReadyH.nil
      go_simp
      refine (HC.out _ BE.out).mono ?_
      rintro e w2 ⟨v2, L2, rfl, o2, e2, b2⟩
      have N2 : Hid (NodesV w2 v2 l) := by show NodesV _ _ _; rw [← e2]; exact o2.nodes
      obtain ⟨p2, k2, rfl⟩ : ∃ p k, v2 = .slice p l.length k := by obtain ⟨p, k, e, _⟩ := N2.out; exact ⟨p, k, e⟩
      have B3 := hide (chain BE.out b2)
      replace K1 := hide (K1.out.below b2)
      replace OE := hide (owns_below OE.out b2)
      have OD := hide o2
      have E2 := hide e2
      have EB : Hid (w1.drew.heap.size < (w1.drew.alloc (.cells #[] 41)).heap.size) := by show _ < _; simp
      clear o2 e2 b2 HC BE
      go_wp2_with fail
      refine hK.out _ _ ?_ (fun hHeld => ?_)
      · exact ⟨K1.out.cell 0 rfl, K1.out.cell 1 rfl, K1.out.cell 2 rfl⟩
      clear hK K
      refine wpAnyH_ready (rs := [4]) (by kernel_rfl) (by simp) ?_
      refine AllReadyH.cons (i := 4) (o := { dst := some 16, op := Op.call { callee := Callee.builtin Builtin.append, args := #[Operand.tmp 14, Operand.tmp 15], argTypes := #[29, 29] }, type := 29, pos := "law.go:42", after := #[{ on := 2, ground := Ground.data }, { on := 3, ground := Ground.data }, { on := 1, ground := Ground.chain }], guard := none }) rfl (fun K hK => ?_) AllReadyH.nil
      have RW := hide ((HL.out.choose_spec.below B3.out).raw)
      have AOK := hide HL.out.choose_spec.1
      refine step_append_raw rfl _ _ _ rfl w1.drew.heap.size 41 iL _ 4 56 Try.underlying29 hL0 hL1 hL2 hL3 rfl (by omega) _ 0 [] rfl OE.out _ all.length _ rfl RW.out (cellsL_one AOK.out) (by unfold maxLen; omega) (by omega) (Nat.le_of_lt (OE.out.lt _ rfl).2) ?_
      intro q8 k8 w8 own8 gr8 at8
      rw [Nat.zero_add, List.nil_append] at own8
      rw [Nat.zero_add]
      have LS8 : Hid (LsV w8 (.slice q8 all.length k8) all) := ⟨_, (LsO.mk AOK.out own8).lsv⟩
      have EW : w.heap.size < w1.drew.heap.size := LT1
      have B8 : Hid (Below w.heap.size w w8) := rowGrown_below B3.out B3.out.size gr8 (fun k e => by cases e; exact Nat.le_of_lt EW)
      have N8 : Hid (NodesV w8 (.slice p2 l.length k2) l) := by
        have t := (OD.out.kept (Chg.of_grown gr8) (fun k hk q => by
          have h1 := (OD.out.lt q).1
          have h2 : w1.drew.heap.size = k := Option.some.inj (opt_mem.1 hk)
          have h3 := EB.out
          omega)).nodes
        rw [E2.out] at t
        exact t
      replace K1 : Hid (Bk w8 w.heap.size [.int .i64 t, .string k, .bool b] 31) := ⟨((Chg.of_grown gr8).block _ K1.out.lt (fun q => by have h2 : w1.drew.heap.size = w.heap.size := Option.some.inj (opt_mem.1 q); omega)).trans K1.out.lies⟩
      clear own8 gr8 at8 RW AOK OE N2 EW B3
      refine hK.out _ _ ?_ (fun hHeld => ?_)
      · exact ⟨K1.out.cell 0 rfl, K1.out.cell 1 rfl, K1.out.cell 2 rfl⟩
      clear hK K
      refine wpAnyH_ready (rs := [11]) (by kernel_rfl) (by simp) ?_
      refine AllReadyH.cons (i := 11) (o := { dst := some 23, op := Op.call { callee := Callee.value (Operand.func 14), args := #[Operand.tmp 13, Operand.tmp 16, Operand.tmp 18, Operand.tmp 20, Operand.tmp 22], argTypes := #[22, 29, 3, 9, 4] }, type := 33, pos := "law.go:42", after := #[{ on := 1, ground := Ground.data }, { on := 4, ground := Ground.data }, { on := 6, ground := Ground.data }, { on := 8, ground := Ground.data }, { on := 10, ground := Ground.data }, { on := 4, ground := Ground.chain }], guard := none }) rfl (fun K hK => ?_) AllReadyH.nil
      go_simp
      refine (H1.out _ _ _ B8.out N8.out LS8.out).mono ?_
      rintro e w9 ⟨v9, rfl, c9, b9⟩
      have B9 := hide (chain B8.out b9)
      replace K1 := hide (K1.out.below b9)
      have C9 := hide c9
      obtain ⟨p9, k9, rfl, _⟩ := c9
      clear b9 B8 N8 LS8 H1
      go_wp2_with fail
      refine hK.out _ _ ?_ (fun hHeld => ?_)
      · exact ⟨K1.out.cell 0 rfl, K1.out.cell 1 rfl, K1.out.cell 2 rfl⟩
      clear hK K
      refine wpAnyH_ready (rs := [20]) (by kernel_rfl) (by simp) ?_
      refine AllReadyH.cons (i := 20) (o := { dst := some 32, op := Op.call { callee := Callee.value (Operand.func 15), args := #[Operand.tmp 24, Operand.tmp 25, Operand.tmp 27, Operand.tmp 29, Operand.tmp 31], argTypes := #[22, 29, 3, 9, 4] }, type := 33, pos := "law.go:42", after := #[{ on := 12, ground := Ground.data }, { on := 13, ground := Ground.data }, { on := 15, ground := Ground.data }, { on := 17, ground := Ground.data }, { on := 19, ground := Ground.data }, { on := 11, ground := Ground.chain }], guard := none }) rfl (fun K hK => ?_) AllReadyH.nil
      go_simp
      refine (H2.out _ B9.out).mono ?_
      rintro e wa ⟨qa, za, rfl, ca, ba⟩
      have BA := hide (chain B9.out ba)
      replace K1 := hide (K1.out.below ba)
      have CB := hide (C9.out.below ba)
      have CA := hide ca.cls
      clear ba ca B9 C9 H2
      go_wp2_with fail
      refine hK.out _ _ ?_ (fun hHeld => ?_)
      · exact ⟨K1.out.cell 0 rfl, K1.out.cell 1 rfl, K1.out.cell 2 rfl⟩
      clear hK K
      refine wpAnyH_ready (rs := [21]) (by kernel_rfl) (by simp) ?_
      refine AllReadyH.cons (i := 21) (o := { dst := some 33, op := Op.call { callee := Callee.value (Operand.func 13), args := #[Operand.tmp 23, Operand.tmp 32], argTypes := #[33, 33] }, type := 4, pos := "law.go:42", after := #[{ on := 11, ground := Ground.data }, { on := 20, ground := Ground.data }, { on := 20, ground := Ground.chain }], guard := none }) rfl (fun K hK => ?_) AllReadyH.nil
      go_simp
      refine (H5.out _ _ _ CB.out CA.out).mono ?_
      rintro e wb ⟨rfl, bb⟩
      have BB := hide (chain BA.out bb)
      replace K1 := hide (K1.out.below bb)
      clear bb BA CB CA H5
      go_wp2_with fail
      refine hK.out _ _ ?_ (fun hHeld => ?_)
      · exact ⟨K1.out.cell 0 rfl, K1.out.cell 1 rfl, K1.out.cell 2 rfl⟩
      clear hK K
      refine wpAnyH_take (i := 22) (oi := { dst := some 6, op := Op.assign (Operand.tmp 33), type := 4, pos := "law.go:42", after := #[{ on := 21, ground := Ground.data }, { on := 21, ground := Ground.chain }, { on := 0, ground := Ground.phase }, { on := 1, ground := Ground.phase }, { on := 2, ground := Ground.phase }, { on := 3, ground := Ground.phase }, { on := 4, ground := Ground.phase }, { on := 5, ground := Ground.phase }, { on := 6, ground := Ground.phase }, { on := 7, ground := Ground.phase }, { on := 8, ground := Ground.phase }, { on := 9, ground := Ground.phase }, { on := 10, ground := Ground.phase }, { on := 11, ground := Ground.phase }, { on := 12, ground := Ground.phase }, { on := 13, ground := Ground.phase }, { on := 14, ground := Ground.phase }, { on := 15, ground := Ground.phase }, { on := 16, ground := Ground.phase }, { on := 17, ground := Ground.phase }, { on := 18, ground := Ground.phase }, { on := 19, ground := Ground.phase }, { on := 20, ground := Ground.phase }, { on := 21, ground := Ground.phase }], guard := none }) (v := ?_) rfl (by kernel_rfl) (by kernel_rfl) (by kernel_rfl) (fun _ _ _ h => h) (Or.inl ⟨by rfl, ?_⟩) (by assumption) ?_
      rotate_left
      · (intro w hSw; (try dsimp only at hSw); first | (go_simp; done) | (go_simp; with_reducible rfl))
      simp only [Act.put, List.setIfInBounds_toArray, List.set_cons_zero, List.set_cons_succ]
      refine wpAnyH_done (by kernel_rfl) ?_ _
      go_wp2_with fail
      go_ret
      exact ⟨rfl, BB.out⟩
  · have i2 : (200 : Int) < (all.length : Int) := by omega
    have i3 : (all.length : Int) ≤ 2513169434917 := by omega
    obtain ⟨p, c, rfl⟩ : ∃ p k, v = .slice p l.length k := by obtain ⟨p, k, e, _⟩ := hv; exact ⟨p, k, e⟩
    obtain ⟨A, hA, pl, cl, rfl, _⟩ := hl
    clear hv hz hT hA HC
    go_enter Try.func4, Try.ntmps4
    go_wp2_with fail
    refine HW.out.mono ?_
    rintro e w1 ⟨rfl, b1⟩
    go_wp2_with fail
    go_ret
    exact ⟨rfl, chain B0.out b1⟩

end Go.Proofs.Ytmobcijigiacoaa
