/- The program's Path, Bubbles, Cancels of layer 23. The program's Calls of layer 23. -/
import Derived.Test.YtmobcijigiacoaaJev7
import Derived.Test.YtmobcijigiacoaaJev9
import Derived.Test.YtmobcijigiacoaaJev14
import Derived.Test.YtmobcijigiacoaaJev19
import Derived.Test.YtmobcijigiacoaaJev20

namespace Go.Proofs.Ytmobcijigiacoaa
open Go.RowKit Go.Shelf
set_option maxRecDepth 100000
theorem bel_drop {B : Nat} {w0 w : World} {g q : Nat} {d : Array Int} (h : Below B w0 w) (hg : B ≤ g) : Below B w0 (Sort.putRow (Value.int .i64) (Sort.ahead w q) g 0 d) := Lib.below_putRow h hg
set_option maxHeartbeats 8000000 in
theorem evPathO_any (v : Value) (l : List Nd) (t : Int) (w : World) (hv : NodesV w v l) (hz : DocSz l) :
    Calls Try.prog 10 #[v, .int .i64 t] w fun e w' => ∃ q k, e = .returned (.slice q (pathP l t).length k) ∧ KidsO w.heap.size w' (.slice q (pathP l t).length k) (pathP l t) ∧ (pathP l t = [] → q = none) ∧ Below w.heap.size w w' := by
  have HT := hide (top_any v l t w hv hz)
  cases h : hasN l t with
  | false =>
    have E : Hid (pathP l t = []) := path_none h
    have ET : Hid (topQ l t = -1) := by show _ = _; unfold topQ; rw [h]; rfl
    rw [ET.out] at HT
    obtain ⟨p, c, rfl, _⟩ := hv
    clear h hz ET
    go_enter Try.func10, Try.ntmps10
    go_wp2_with fail
    refine HT.out.mono ?_
    rintro e w1 ⟨rfl, b1⟩
    go_wp2_with fail
    go_ret
    exact ⟨none, 0, by rw [E.out]; rfl, by rw [E.out]; exact World.ownsRow_nil _ _ _ _, fun _ => rfl, b1⟩
  | true =>
    obtain ⟨hR0, h0, h1⟩ := hasN_is h
    obtain ⟨m0, rfl⟩ : ∃ m : Nat, t = (m : Int) := ⟨t.toNat, by omega⟩
    have hm0 : m0 < l.length := by omega
    have hR := hide hR0
    have hlen := hR0.len.2
    obtain ⟨T, eT, hT⟩ := top_inE hR0 hm0
    have ET : topQ l (m0 : Int) = (T : Int) := by unfold topQ; rw [h]; exact eT
    rw [ET] at HT
    have EP : Hid (pathP l (m0 : Int) = (anc l (m0 : Int)).reverse) := by show _ = _; unfold pathP; rw [if_pos h]
    have NE : Hid (anc l (m0 : Int) ≠ []) := fun q => by
      have := anc_self hR0 h0 h1
      rw [q] at this; cases this
    have FEW : Hid ((anc l (m0 : Int)).length ≤ 400) := by
      show _ ≤ _
      have := path_few (l := l) (t := (m0 : Int))
      rw [EP.out, List.length_reverse] at this
      exact this
    obtain ⟨p, c, rfl, hcell⟩ := hv
    obtain ⟨b, o, rfl, hcl⟩ : ∃ b o, p = some ⟨b, o, none⟩ ∧ ∀ i (h : i < l.length), ∃ va vk, NodeAt w b (o + i * 5) l[i] va vk := by
      rcases hcell with t | t
      · rw [t] at hm0; simp at hm0
      · exact t
    have HC : Hid (∀ i (h : i < l.length), ∃ va vk, NodeAt w b (o + i * 5) l[i] va vk) := hcl
    obtain ⟨iI, hI0, hI1, hI2, hI3⟩ := info_parts infoI
    have tne : ((T : Int) == -1) = false := beq_eq_false_iff_ne.2 (by omega)
    clear h hR0 eT ET hcell hcl h0 h1 hz
    go_enter Try.func10, Try.ntmps10
    go_wp2_with fail
    refine HT.out.mono ?_
    rintro e w1 ⟨rfl, b1⟩
    have B1 := hide b1
    clear b1 HT
    go_wp2_with fail
    go_loopw [5, 6] (fun ov iv wr => ∃ (z : Int) (pre : List Int) (q : Option Addr) (cp : Nat), iv = .int .i64 z ∧ ov = .slice q pre.length cp ∧ -1 ≤ z ∧ z < (l.length : Int) ∧ Hid (pre ++ anc l z = anc l (m0 : Int)) ∧ Hid (KidsO w1.heap.size wr (.slice q pre.length cp) pre) ∧ Hid (Below w1.heap.size w1 wr)) (fun _ iv _ => hgt l (intOf iv))
    case atStart => exact ⟨(m0 : Int), [], none, 0, rfl, rfl, by omega, by omega, rfl, World.ownsRow_nil _ _ _ _, Below.refl _ _⟩
    case round =>
      rename World => wr
      obtain ⟨z, xs, px, cx, rfl, rfl, z1, z2, EQ, KX, BW⟩ := hrel
      have BWW := hide (chain B1.out BW.out)
      by_cases z0 : z = -1
      · subst z0
        have zn : ((-1 : Int) != -1) = false := by decide
        have EX : Hid (xs = anc l (m0 : Int)) := by
          show _ = _
          rw [← EQ.out, anc_neg (by omega), List.append_nil]
        have xne : xs ≠ [] := by rw [EX.out]; exact NE.out
        have fl : xs.length ≤ 400 := by rw [EX.out]; exact FEW.out
        have vne : (Value.slice px xs.length cx) ≠ .slice none 0 0 := fun e => by
          injection e with _ e2 _
          exact xne (List.eq_nil_of_length_eq_zero e2)
        obtain ⟨g, cap, eg, hgb, hgl, hnc, hcm, hlen2, hH⟩ := Lib.holds_of_ownsRow (zs := xs) (enc := Value.int .i64) KX.out vne
        injection eg with e1 _ e3
        subst e1 e3
        have HRv := hide (Any.slices_Reverse_int lays112 g 0 cx xs wr hH (by omega))
        clear hH vne xne EQ hlen2
        go_wp2_with fail
        refine HRv.out.mono ?_
        rintro e w3 ⟨rfl, n, rfl⟩
        go_wp2_with fail
        go_ret
        have hy : xs.reverse.length = xs.length := List.length_reverse
        have r := Lib.ownsRow_putRow (q := n) (ys := xs.reverse) KX.out hy (Nat.le_refl _)
        rw [List.take_of_length_le (Nat.le_of_eq hy)] at r
        have eR : pathP l (m0 : Int) = xs.reverse := by rw [EP.out, EX.out]
        have b3 : Below w.heap.size w (Sort.putRow (Value.int .i64) (Sort.ahead wr n) g 0 xs.reverse.toArray) := bel_drop BWW.out (Nat.le_trans B1.out.size hgb)
        rw [eR, hy]
        refine ⟨_, _, rfl, ?_, fun q => absurd q (fun q => NE.out (by rw [← EX.out]; exact List.reverse_eq_nil_iff.1 q)), b3⟩
        show World.ownsRow _ _ _ _ _ _ _
        rw [hy]
        exact owns_mono r B1.out.size
      · obtain ⟨m, rfl⟩ : ∃ m : Nat, z = (m : Int) := ⟨z.toNat, by omega⟩
        have hm : m < l.length := by omega
        have zn : ((m : Int) != -1) = true := bne_iff_ne.2 z0
        have he := hR.out.ende (show (m : Int) < (l.length : Int) by omega)
        have HH := hide (hgt_up he (by omega))
        have AU := hide (anc_up he (show ¬ (m : Int) < 0 by omega))
        have pb := hR.out.par m hm
        rw [nd_at hm] at pb
        rw [parI_nat hm] at HH AU
        obtain ⟨va, vk, N0⟩ := HC.out m hm
        have m1 : (m : Int) < (l.length : Int) := z2
        have m0' : (0 : Int) ≤ (m : Int) := by omega
        have fl : xs.length ≤ 400 := by
          have h1 := congrArg List.length EQ.out
          rw [List.length_append] at h1
          have := FEW.out
          omega
        have EQ2 : Hid ((xs ++ [(m : Int)]) ++ anc l l[m].parent = anc l (m0 : Int)) := by
          show _ = _
          rw [← EQ.out, AU.out, List.append_assoc]; rfl
        have NB : Hid (∀ W, Below w1.heap.size w1 W → W.cell? ⟨b, o + m * 5 + 3, none⟩ = some (.int .i64 l[m].parent)) := fun W hb => (N0.below (chain B1.out hb)).parent
        have p1 := pb.1
        have p2 := pb.2
        have AL : Hid (Below wr.heap.size wr (wr.alloc (.cells #[.int .i64 (m : Int)] 3))) := (Below.refl _ _).alloc (Nat.le_refl _) _
        have OZ := hide (owns_below KX.out AL.out)
        have RAW := hide ((Bk.new wr [.int .i64 (m : Int)] 3).raw 1 1 rfl 1)
        have WZ : Hid (w1.heap.size ≤ (wr.alloc (.cells #[.int .i64 (m : Int)] 3)).heap.size) := by
          have h1 := BW.out.size
          have h2 := AL.out.size
          show _ ≤ _
          omega
        have BA : Hid (Below w1.heap.size w1 (wr.alloc (.cells #[.int .i64 (m : Int)] 3))) := chain BW.out AL.out
        clear he pb N0 AL EQ AU z0 z2
        generalize l[m].parent = pm at *
        go_wp2_with (at_builtin; refine wpList_append_raw rfl _ _ _ rfl w1.heap.size 3 iI _ 1 8 Try.underlying25 hI0 hI1 hI2 hI3 rfl (by omega) _ xs.length (cellsI xs) rfl OZ.out _ 1 _ rfl RAW.out (by simp [Value.oneCell']) (by unfold maxLen; omega) (by omega) WZ.out ?_; intro q8 k8 w8 own8 gr8 at8; have B8 := hide (rowGrown_below BA.out WZ.out gr8 (fun k e => (OZ.out.lt k e).1)); have c8 := NB.out w8 B8.out)
        have O8 : Hid (KidsO w1.heap.size w8 (.slice q8 (xs.length + 1) k8) (xs ++ [(m : Int)])) := by
          show World.ownsRow _ _ _ _ _ _ _
          rw [List.length_append, cellsI_app]
          exact own8
        clear own8 gr8 at8 OZ RAW
        go_roundw
        case rel => exact ⟨pm, xs ++ [(m : Int)], q8, k8, rfl, by rw [List.length_append]; rfl, p1, by omega, EQ2.out, by show KidsO _ _ _ _; rw [List.length_append]; exact O8.out, B8.out⟩
        case measure => have := HH.out; show hgt l pm < hgt l (m : Int); omega
end Go.Proofs.Ytmobcijigiacoaa

namespace Go.Proofs.Ytmobcijigiacoaa
open Go.RowKit Go.Shelf
set_option maxRecDepth 100000
attribute [local go_sem] Oper.semAt_some
theorem EvTabs.below {w w' : World} (_ : EvTabs w) (_ : Below w.heap.size w w') : EvTabs w' := trivial
theorem callsG_none {l : List Nd} {all : List Ls} {t : Int} {k : ByteArray} {b : Bool} (h : pathP l t = []) : callsP l all t k b = [] := by
  unfold callsP grpE
  rw [h]
  cases b <;> rfl
theorem path_range {l : List Nd} {t x : Int} (h : x ∈ pathP l t) : 0 ≤ x ∧ x < (l.length : Int) := by
  by_cases hh : hasN l t = true
  · obtain ⟨hR, t0, t1⟩ := hasN_is hh
    unfold pathP at h
    rw [if_pos hh, List.mem_reverse] at h
    exact anc_range l (fun i hi => (hR.par i hi).2) _ _ t1 x h
  · rw [path_none (by simpa using hh)] at h; cases h
theorem nodes_few {l : List Nd} {t : Int} (h : pathP l t ≠ []) : l.length ≤ 400 := by
  cases hh : hasN l t with
  | false => exact absurd (path_none hh) h
  | true => exact (hasN_is hh).1.len.2
set_option maxHeartbeats 16000000 in
theorem evCalls_any (v vl : Value) (l : List Nd) (all : List Ls) (t : Int) (k : ByteArray) (b : Bool) (w : World) (hv : NodesV w v l) (hz : DocSz l) (hl : LsV w vl all) (hn : all.length ≤ 1000) (_ : EvTabs w) :
    Calls Try.prog 14 #[v, vl, .int .i64 t, .string k, .bool b] w fun e w' => ∃ v', e = .returned v' ∧ ClsV w' v' (callsP l all t k b) ∧ Below w.heap.size w w' := by
  have HP := hide (evPathO_any v l t w hv hz)
  obtain ⟨p, c, rfl, _⟩ := hv
  by_cases h0 : pathP l t = []
  · have E := hide (callsG_none (all := all) (k := k) (b := b) h0)
    have H0 := hide h0
    have P0 : Hid (∀ (q : Option Addr) (kk : Nat) (W : World), (pathP l t = [] → q = none) → KidsO w.heap.size W (.slice q (pathP l t).length kk) (pathP l t) → Value.slice q (pathP l t).length kk = .slice none 0 0) := fun q kk W h1 h2 => by
      have e1 := h1 h0
      subst e1
      rcases h2.2 with ⟨e, _⟩ | ⟨_, _, _, e, _⟩
      · exact e
      · cases e
    clear h0 hz hl
    refine (callsIn_wide (n := 3)).1 ?_
    refine callsIn_of_wp_marks Try.func14 rfl trivial ?_ rfl
    simp only [Try.ntmps14, List.size_toArray, List.length_cons, List.length_nil, Nat.reduceAdd, Nat.reduceSub, Array.replicate_succ, Array.replicate_zero, List.push_toArray, List.append_toArray, List.nil_append, List.cons_append]
    gi_wp2
    refine ⟨trivial, ?_⟩
    refine (callsIn_wide.2 HP.out).mono ?_
    rintro e w1 ⟨q, kk, rfl, k1, n1, b1⟩
    rw [P0.out q kk w1 n1 k1]
    clear k1 n1
    have NN : (binOp BinOp.eql 25 (.slice none 0 0) (.slice none 0 0)).run Try.prog w1 = .ok (.bool true) w1 := rfl
    gi_wp2
    exact ⟨_, results_tmp rfl _ _ _, _, rfl, by rw [E.out]; exact ⟨none, 0, rfl, .inl rfl⟩, b1⟩
  · obtain ⟨xs, hxs⟩ : ∃ xs, pathP l t = xs := ⟨_, rfl⟩
    have hL4 := nodes_few h0
    have HL := hide (fun W (hb : Below w.heap.size w W) => evListen_any vl all k l.length W (hl.below hb) hn hL4)
    have EC := hide (calls_stops (all := all) (k := k) (b := b) h0)
    have RNG : Hid (∀ x ∈ xs, 0 ≤ x ∧ x < (l.length : Int)) := fun x hx => path_range (by rw [hxs]; exact hx)
    have few : xs.length ≤ 400 := by rw [← hxs]; exact path_few
    rw [hxs] at HP EC h0
    have hpos : 0 < xs.length := List.length_pos_iff.2 h0
    have H0 := hide h0
    clear hz hl hxs h0
    refine (callsIn_wide (n := 3)).1 ?_
    refine callsIn_of_wp_marks Try.func14 rfl trivial ?_ rfl
    simp only [Try.ntmps14, List.size_toArray, List.length_cons, List.length_nil, Nat.reduceAdd, Nat.reduceSub, Array.replicate_succ, Array.replicate_zero, List.push_toArray, List.append_toArray, List.nil_append, List.cons_append]
    gi_wp2
    refine ⟨trivial, ?_⟩
    refine (callsIn_wide.2 HP.out).mono ?_
    rintro e w1 ⟨q, kk, rfl, k1, _, b1⟩
    obtain ⟨pg, kk, eq, _, pg0, pg1, pc, _⟩ := owns_at k1 hpos
    cases eq
    have K1 := hide k1
    have B1 := hide b1
    clear k1 b1
    have NN : (binOp BinOp.eql 25 (.slice (some ⟨pg, 0, none⟩) xs.length kk) (.slice none 0 0)).run Try.prog w1 = .ok (.bool false) w1 := rfl
    gi_wp2
    refine ⟨trivial, ?_⟩
    refine (callsIn_wide.2 (HL.out w1 B1.out)).mono ?_
    rintro e w2 ⟨V, rfl, r2, b2⟩
    have R2 := hide r2
    have B2 := hide b2
    have s2 : w1.heap.size ≤ w2.heap.size := b2.size
    clear r2 b2
    gi_wp2
    refine ⟨trivial, ?_⟩
    obtain ⟨w3, hw3⟩ : ∃ w3, (w2.alloc (.cells #[.slice (some ⟨w1.heap.size, 0, none⟩) l.length l.length] 50)).alloc (.cells #[.slice none 0 0] 33) = w3 := ⟨_, rfl⟩
    have s3 : w3.heap.size = w2.heap.size + 2 := by rw [← hw3]; simp
    have b3 : Below w2.heap.size w2 w3 := by rw [← hw3]; exact ((Below.refl _ w2).alloc (Nat.le_refl _) _).alloc (by simp) _
    have bA3 : Boxed w3 w2.heap.size 50 (.slice (some ⟨w1.heap.size, 0, none⟩) l.length l.length) := by rw [← hw3]; exact (Boxed.new w2 _ _).alloc _
    have bC3 : Boxed w3 (w2.heap.size + 1) 33 (.slice none 0 0) := by
      have := Boxed.new (w2.alloc (.cells #[.slice (some ⟨w1.heap.size, 0, none⟩) l.length l.length] 50)) 33 (.slice none 0 0)
      rw [World.size_alloc] at this
      rw [← hw3]; exact this
    rw [hw3]
    refine (callsIn_wide.2 (evStops_any (some ⟨pg, 0, none⟩) xs.length kk b w3)).mono ?_
    rintro e w4 ⟨rfl, hw4⟩
    rw [s3]
    have s4 : w4.heap.size = w2.heap.size + 4 := by rw [hw4]; simp [s3]
    have b34 : Below w3.heap.size w3 w4 := by rw [hw4]; exact ((Below.refl _ w3).alloc (Nat.le_refl _) _).alloc (by simp) _
    have bA : Boxed w4 w2.heap.size 50 (.slice (some ⟨w1.heap.size, 0, none⟩) l.length l.length) := (b34.block _ bA3.lt).trans bA3
    have bC : Boxed w4 (w2.heap.size + 1) 33 (.slice none 0 0) := (b34.block _ bC3.lt).trans bC3
    have bP : Boxed w4 (w2.heap.size + 2) 25 (.slice (some ⟨pg, 0, none⟩) xs.length kk) := by
      rw [hw4, ← s3]; exact (Boxed.new w3 _ _).alloc _
    have bB : Boxed w4 (w2.heap.size + 2 + 1) 4 (.bool b) := by
      have := Boxed.new (w3.alloc (.cells #[.slice (some ⟨pg, 0, none⟩) xs.length kk] 25)) 4 (.bool b)
      rw [World.size_alloc, s3] at this
      rw [hw4]; exact this
    have B24 : Below w2.heap.size w2 w4 := chain b3 b34
    have BW4 : Below w.heap.size w w4 := chain (chain B1.out B2.out) B24
    have NIL : ∀ u, Boxed w4 (w2.heap.size + 1) 33 u → u = .slice none 0 0 := fun u hu => by
      have h2 : w4.heap[w2.heap.size + 1]? = _ := bC
      have h1 : w4.heap[w2.heap.size + 1]? = _ := hu
      rw [h2] at h1
      simpa using h1.symm
    have NR : ∀ m, NotRow (w2.heap.size + 1) w4 m := fun m u hu e => by rw [NIL u hu] at e; cases e
    have RI : RowIn (w2.heap.size + 1) w4 := fun u hu j e => by rw [NIL u hu] at e; cases e
    have PC : ∀ i (h : i < xs.length), w4.cell? ⟨pg, 0 + i, none⟩ = some (.int .i64 xs[i]) := fun i h => by
      rw [Nat.zero_add]
      refine cell_below ?_ (B2.out.trans (B24.mono s2))
      refine owns_cell K1.out rfl ?_
      show (cellsI xs)[i]? = _
      unfold cellsI
      rw [List.getElem?_map, List.getElem?_eq_getElem h]
      rfl
    have SEQ : Hid (SeqL 3 Try.prog 33 #[.pointer (some ⟨w2.heap.size + 2, 0, none⟩), .pointer (some ⟨w2.heap.size + 2 + 1, 0, none⟩)] (stopsL xs b) (KpC (w2.heap.size + 1) (w4.heap.size + 2)) w4) := by
      have sp : Safe (w2.heap.size + 1) w4 (w2.heap.size + 2) := ⟨by omega, by omega, NR _⟩
      have sb : Safe (w2.heap.size + 1) w4 (w2.heap.size + 2 + 1) := ⟨by omega, by omega, NR _⟩
      have sx : Safe (w2.heap.size + 1) w4 pg := ⟨by omega, by omega, NR _⟩
      cases b with
      | false => exact evStops1_false 3 _ pg 0 kk _ _ xs w4 bP bB sp sb sx (by omega) RI PC hpos few pc
      | true => exact evStops1_true 3 _ pg 0 kk _ _ xs w4 bP bB sp sb sx (by omega) RI PC hpos few pc
    obtain ⟨ST, hST⟩ : ∃ ST : Nat → Int × Int, ST = fun i => (stopsP xs b).getD i (0, 0) := ⟨_, rfl⟩
    have EL : Hid (∀ i (h : i < (stopsL xs b).length), (stopsL xs b)[i] = #[.int .i64 (ST i).1, .int .i64 (ST i).2]) := fun i h => by
      have h2 : i < (stopsP xs b).length := by have := h; unfold stopsL at this; rw [List.length_map] at this; exact this
      have f : ((stopsP xs b).map fun x => (#[.int .i64 x.1, .int .i64 x.2] : Array Value))[i]? = some #[.int .i64 (ST i).1, .int .i64 (ST i).2] := by
        rw [List.getElem?_map, List.getElem?_eq_getElem h2, hST]
        simp only [List.getD_eq_getElem?_getD, List.getElem?_eq_getElem h2, Option.getD_some, Option.map_some]
      exact Option.some.inj ((List.getElem?_eq_getElem h).symm.trans f)
    have SLN : Hid ((stopsL xs b).length = (stopsP xs b).length) := by show _ = _; unfold stopsL; rw [List.length_map]
    have TK : Hid (∀ i, i < (stopsP xs b).length → ((stopsP xs b).take (i + 1)).flatMap (stepC all k) = ((stopsP xs b).take i).flatMap (stepC all k) ++ stepC all k (ST i)) := fun i h => by
      rw [List.take_succ_eq_append_getElem h, List.flatMap_append, hST]
      simp only [List.getD_eq_getElem?_getD, List.getElem?_eq_getElem h, Option.getD_some, List.flatMap_cons, List.flatMap_nil, List.append_nil]
    have MEM : Hid (∀ i, i < (stopsP xs b).length → (ST i).1 ∈ xs ∧ 1 ≤ (ST i).2 ∧ (ST i).2 ≤ 3) := fun i h => by
      rw [hST]
      simp only [List.getD_eq_getElem?_getD, List.getElem?_eq_getElem h, Option.getD_some]
      exact stops_mem (List.getElem_mem h) H0.out
    have FEWC : Hid (∀ i, (((stopsP xs b).take i).flatMap (stepC all k)).length ≤ 2000000) := fun i => by
      have a := flat_few (xs := (stopsP xs b).take i) (f := stepC all k) (c := 2000) (fun x _ => by have := calls_few (all := all) (k := k) (x := x); omega)
      have e := stops_len (p := xs) (b := b)
      rw [List.length_take] at a
      have m1 : min i (stopsP xs b).length * 2000 ≤ (2 * xs.length + 1) * 2000 := Nat.mul_le_mul_right _ (by omega)
      omega
    have FAR : Hid (∀ i j, i < (rowsG k l.length all).length → (hAt V i).ownBlock = some j → j < w4.heap.size ∧ j ≠ w2.heap.size + 1) := fun i j hi hj => by
      have := (R2.out.lt hi hj).2
      exact ⟨by omega, by omega⟩
    have ST0 : StC w4.heap.size w1.heap.size w1.heap.size (w2.heap.size + 1) w2.heap.size l.length w (rowsG k l.length all) V [] w4 := ⟨⟨none, 0, bC, World.ownsRow_nil _ _ _ _⟩, bA, R2.out.below B24, BW4, Nat.le_refl _⟩
    have lg : w1.heap.size < w2.heap.size := (World.ownsRow.lt R2.out.row w1.heap.size rfl).2
    have lw : w.heap.size ≤ w1.heap.size := B1.out.size
    clear hw3 hw4 b3 bA3 bC3 b34 bA bC bP bB B24 NIL NR RI PC hST NN
    gi_wp2
    refine wpIn_range_list (gf := 33) (lb := #[.pointer (some ⟨w2.heap.size + 2, 0, none⟩), .pointer (some ⟨w2.heap.size + 2 + 1, 0, none⟩)]) rfl (enters_of Try.func33 (by kernel_rfl) rfl) SEQ.out (fun i h => by rw [EL.out i h]; rfl) (fun h k => KpC.trans h k) (fun W o o' h ho => KpC.put o' h ho (by omega) (by omega))
      (fun i W => StC w4.heap.size w1.heap.size w1.heap.size (w2.heap.size + 1) w2.heap.size l.length w (rowsG k l.length all) V (((stopsP xs b).take i).flatMap (stepC all k)) W)
      (StC.from (f := fun i => ((stopsP xs b).take i).flatMap (stepC all k)) BW4.size) ST0
      (fun i => { tmps := #[.slice p l.length c, vl, .int .i64 t, .string k, .bool b, undef, undef, undef, undef, undef, .slice none 0 0, .slice (some ⟨pg, 0, none⟩) xs.length kk, .pointer (some ⟨w2.heap.size, 0, none⟩), .pointer (some ⟨w2.heap.size + 1, 0, none⟩), .int .i64 (ST i).1, .int .i64 (ST i).2, .slice p l.length c, .int .i64 t, .slice (some ⟨pg, 0, none⟩) xs.length kk, .slice (some ⟨pg, 0, none⟩) xs.length kk, .bool false, vl, .string k, .slice p l.length c, .int .i64 l.length, .slice (some ⟨w1.heap.size, 0, none⟩) l.length l.length, .slice (some ⟨pg, 0, none⟩) xs.length kk, .bool b, .func (.func 33) #[] #[.pointer (some ⟨w2.heap.size + 2, 0, none⟩), .pointer (some ⟨w2.heap.size + 2 + 1, 0, none⟩)], .int .i64 (ST i).1, .int .i64 (ST i).2, undef, undef, undef, undef, undef, undef, undef, undef, undef, undef, undef, undef, undef, undef, undef, undef, undef, undef, undef, undef, undef, undef, undef], defers := [] })
      ?assign ?body ?done
    case assign =>
      intro l2 i hi W2 K hK
      rw [EL.out i hi]
      gi_wp2
      exact hK
    case body =>
      intro l2 i hi W hI
      rw [SLN.out] at hi
      have HI := hide hI
      obtain ⟨m1, m2, m3⟩ := MEM.out i hi
      obtain ⟨r1, r2⟩ := RNG.out _ m1
      have TKi := TK.out i hi
      have FEi := FEWC.out i
      clear hI m1
      obtain ⟨cs, hcs⟩ : ∃ cs, ((stopsP xs b).take i).flatMap (stepC all k) = cs := ⟨_, rfl⟩
      rw [hcs] at HI TKi FEi
      clear hcs
      obtain ⟨n, e1⟩ : ∃ n : Nat, (ST i).1 = (n : Int) := ⟨(ST i).1.toNat, by omega⟩
      have n1 : (n : Int) < (l.length : Int) := by omega
      have n0 : (0 : Int) ≤ (n : Int) := by omega
      have hnN : n < l.length := by omega
      have RL := rowsG_len (k := k) (N := l.length) (all := all)
      have SS : Hid (stepC all k (ST i) = (if (ST i).2 = 3 then [] else putC n (ST i).2 (idxF (n : Int) k true 0 all)) ++ (if (ST i).2 = 1 then [] else putC n (ST i).2 (idxF (n : Int) k false 0 all))) := by
        show _ = _
        unfold stepC
        rw [e1]
      have L1 := idx_len (n : Int) k true all 0
      have L2 := idx_len (n : Int) k false all 0
      obtain ⟨hp1, hv1⟩ := plc_at (k := k) (N := l.length) (all := all) (n := n) (c := true) hnN
      obtain ⟨hp2, hv2⟩ := plc_at (k := k) (N := l.length) (all := all) (n := n) (c := false) hnN
      have hp1 : n * 2 < (rowsG k l.length all).length := hp1
      have hp2 : n * 2 + 1 < (rowsG k l.length all).length := hp2
      have ROW1 : Hid (∀ X ds, StC w4.heap.size w1.heap.size w1.heap.size (w2.heap.size + 1) w2.heap.size l.length w (rowsG k l.length all) V ds X → X.cell? ⟨w1.heap.size, n * 2, none⟩ = some (hAt V (n * 2)) ∧ IntsV X (hAt V (n * 2)) (idxF (n : Int) k true 0 all)) := fun X ds h => by
        refine ⟨owns_cell h.rows.row rfl (hAt_at (by rw [h.rows.len]; exact hp1)), ?_⟩
        have := (h.rows.at_ _ hp1).ints
        have e : (rowsG k l.length all)[n * 2] = idxF (n : Int) k true 0 all := hv1
        rwa [e] at this
      have ROW2 : Hid (∀ X ds, StC w4.heap.size w1.heap.size w1.heap.size (w2.heap.size + 1) w2.heap.size l.length w (rowsG k l.length all) V ds X → X.cell? ⟨w1.heap.size, n * 2 + 1, none⟩ = some (hAt V (n * 2 + 1)) ∧ IntsV X (hAt V (n * 2 + 1)) (idxF (n : Int) k false 0 all)) := fun X ds h => by
        refine ⟨owns_cell h.rows.row rfl (hAt_at (by rw [h.rows.len]; exact hp2)), ?_⟩
        have := (h.rows.at_ _ hp2).ints
        have e : (rowsG k l.length all)[n * 2 + 1] = idxF (n : Int) k false 0 all := hv2
        rwa [e] at this
      have LO1 : Hid (∀ b o kq m, hAt V (n * 2) = .slice (some ⟨b, o, none⟩) m kq → b < w4.heap.size) := fun b o kq m e => (FAR.out _ b hp1 (by rw [e]; rfl)).1
      have LO2 : Hid (∀ b o kq m, hAt V (n * 2 + 1) = .slice (some ⟨b, o, none⟩) m kq → b < w4.heap.size) := fun b o kq m e => (FAR.out _ b hp2 (by rw [e]; rfl)).1
      have STEP := hide (fun (X w5 : World) (es bs : List Cl) (q q' : Option Addr) (c2 c' : Nat) (h : StC w4.heap.size w1.heap.size w1.heap.size (w2.heap.size + 1) w2.heap.size l.length w (rowsG k l.length all) V es X) (hq : Boxed X (w2.heap.size + 1) 33 (.slice q es.length c2)) (ho : ClsO w4.heap.size X (.slice q es.length c2) es) (h5 : ClsO w4.heap.size w5 (.slice q' bs.length c') bs) (hc : Chg (Value.slice q es.length c2).ownBlock.toList X w5) (hm : MovR (.slice q es.length c2) (.slice q' bs.length c') X.heap.size) => h.step (n0 := w4.heap.size + 2) (B := w4.heap.size) hq ho h5 hc hm (by omega) (by omega) (by omega) (by omega) (by omega) FAR.out (by omega) (by omega))
      have HPL1 := hide hp1
      have HPL2 := hide hp2
      clear hv1 hv2 hp1 hp2 RL r1 r2
      have hn1 := hide hn
      rcases (show (ST i).2 = 1 ∨ (ST i).2 = 2 ∨ (ST i).2 = 3 by omega) with e2 | e2 | e2
      · have ES : Hid (((stopsP xs b).take (i + 1)).flatMap (stepC all k) = cs ++ putC n 1 (idxF (n : Int) k true 0 all)) := by
          show _ = _
          rw [TKi, SS.out, e2, if_neg (by decide), if_pos rfl, List.append_nil]
        rw [e1, e2]
        clear TKi SS e1 e2 m2 m3
        generalize idxF (n : Int) k true 0 all = ya at *
        generalize idxF (n : Int) k false 0 all = yb at *
        obtain ⟨q1, c1, hq1, ho1⟩ := HI.out.row
        obtain ⟨ds1, hds1⟩ : ∃ ds, cs ++ putC n 1 ya = ds := ⟨_, rfl⟩
        have DL1 : ds1.length ≤ cs.length + 1000 := by rw [← hds1, List.length_append, putC, List.length_map]; omega
        rw [hds1] at ES
        have cb1 := hq1.cell
        have hs1 : (fun X : World => X.cell? ⟨w2.heap.size, 0, none⟩ = some (.slice (some ⟨w1.heap.size, 0, none⟩) l.length l.length) ∧ X.cell? ⟨w1.heap.size, n * 2, none⟩ = some (hAt V (n * 2))) W.drew := ⟨HI.out.box.cell, (ROW1.out _ _ HI.out).1⟩
        have CALL1 := hide (evCalling_any w4.heap.size q1 c1 (cs) (hAt V (n * 2)) ya (n : Int) 1 W.drew ho1 HI.out.size (ROW1.out _ _ HI.out).2 (fun b o kq e => LO1.out b o kq _ e) (by omega) (by omega))
        rw [hds1] at CALL1
        clear hds1
        have HQ1 := hide hq1
        have HO1 := hide ho1
        clear hq1 ho1
        gi_wp2
        refine region_round (S := (fun X : World => X.cell? ⟨w2.heap.size, 0, none⟩ = some (.slice (some ⟨w1.heap.size, 0, none⟩) l.length l.length) ∧ X.cell? ⟨w1.heap.size, n * 2, none⟩ = some (hAt V (n * 2)))) (by kernel_rfl) (by kernel_rfl) (by rintro ⟨_, _, h⟩; exact h) hs1 (fun hHeld => ?_)
        refine wpAnyH_take (i := 1) (oi := { dst := some 34, op := Op.load 50 (Operand.tmp 12), type := 50, pos := "event.go:50", after := #[], guard := none }) (v := ?_) rfl (by kernel_rfl) (by kernel_rfl) (by kernel_rfl) (fun _ _ _ h => h) (Or.inl ⟨by rfl, ?_⟩) (by assumption) ?_
        rotate_left
        · (intro w hSw; (try dsimp only at hSw); first | (go_simp; done) | (go_simp; with_reducible rfl))
        simp only [Act.put, List.setIfInBounds_toArray, List.set_cons_zero, List.set_cons_succ]
        refine wpAnyH_take (i := 2) (oi := { dst := some 35, op := Op.move (Operand.tmp 14), type := 3, pos := "event.go:50", after := #[], guard := none }) (v := ?_) rfl (by kernel_rfl) (by kernel_rfl) (by kernel_rfl) (fun _ _ _ h => h) (Or.inl ⟨by rfl, ?_⟩) (by assumption) ?_
        rotate_left
        · (intro w hSw; (try dsimp only at hSw); first | (go_simp; done) | (go_simp; with_reducible rfl))
        simp only [Act.put, List.setIfInBounds_toArray, List.set_cons_zero, List.set_cons_succ]
        refine wpAnyH_take (i := 3) (oi := { dst := some 36, op := Op.indexAddr 50 (Operand.tmp 34) (Operand.tmp 35), type := 0, pos := "event.go:50", after := #[{ on := 1, ground := Ground.data }, { on := 2, ground := Ground.data }], guard := none }) (v := ?_) rfl (by kernel_rfl) (by kernel_rfl) (by kernel_rfl) (fun _ _ _ h => h) (Or.inl ⟨by rfl, ?_⟩) (by assumption) ?_
        rotate_left
        · (intro w hSw; (try dsimp only at hSw); first | (go_simp; done) | (go_simp; with_reducible rfl))
        simp only [Act.put, List.setIfInBounds_toArray, List.set_cons_zero, List.set_cons_succ]
        refine wpAnyH_take (i := 4) (oi := { dst := some 37, op := Op.fieldAddr 57 (Operand.tmp 36) 0, type := 0, pos := "event.go:50", after := #[{ on := 3, ground := Ground.data }], guard := none }) (v := ?_) rfl (by kernel_rfl) (by kernel_rfl) (by kernel_rfl) (fun _ _ _ h => h) (Or.inl ⟨by rfl, ?_⟩) (by assumption) ?_
        rotate_left
        · (intro w hSw; (try dsimp only at hSw); first | (go_simp; done) | (go_simp; with_reducible rfl))
        simp only [Act.put, List.setIfInBounds_toArray, List.set_cons_zero, List.set_cons_succ]
        refine wpAnyH_take (i := 5) (oi := { dst := some 38, op := Op.load 25 (Operand.tmp 37), type := 25, pos := "event.go:50", after := #[{ on := 4, ground := Ground.data }], guard := none }) (v := ?_) rfl (by kernel_rfl) (by kernel_rfl) (by kernel_rfl) (fun _ _ _ h => h) (Or.inl ⟨by rfl, ?_⟩) (by assumption) ?_
        rotate_left
        · (intro w hSw; (try dsimp only at hSw); first | (go_simp; done) | (go_simp; with_reducible rfl))
        simp only [Act.put, List.setIfInBounds_toArray, List.set_cons_zero, List.set_cons_succ]
        refine wpAnyH_take (i := 6) (oi := { dst := some 39, op := Op.move (Operand.tmp 14), type := 3, pos := "event.go:50", after := #[], guard := none }) (v := ?_) rfl (by kernel_rfl) (by kernel_rfl) (by kernel_rfl) (fun _ _ _ h => h) (Or.inl ⟨by rfl, ?_⟩) (by assumption) ?_
        rotate_left
        · (intro w hSw; (try dsimp only at hSw); first | (go_simp; done) | (go_simp; with_reducible rfl))
        simp only [Act.put, List.setIfInBounds_toArray, List.set_cons_zero, List.set_cons_succ]
        refine wpAnyH_take (i := 7) (oi := { dst := some 40, op := Op.move (Operand.tmp 15), type := 3, pos := "event.go:50", after := #[], guard := none }) (v := ?_) rfl (by kernel_rfl) (by kernel_rfl) (by kernel_rfl) (fun _ _ _ h => h) (Or.inl ⟨by rfl, ?_⟩) (by assumption) ?_
        rotate_left
        · (intro w hSw; (try dsimp only at hSw); first | (go_simp; done) | (go_simp; with_reducible rfl))
        simp only [Act.put, List.setIfInBounds_toArray, List.set_cons_zero, List.set_cons_succ]
        refine wpAnyH_ready (rs := [0]) (by kernel_rfl) (by simp) ?_
        refine AllReadyH.cons (i := 0) (o := { dst := some 33, op := Op.load 33 (Operand.tmp 13), type := 33, pos := "event.go:50", after := #[], guard := none }) rfl (fun K hK => ?_) AllReadyH.nil
        go_simp
        refine hK.out _ _ ?_ (fun hHeld => ?_)
        · exact hHeld
        clear hK K
        refine wpAnyH_ready (rs := [8]) (by kernel_rfl) (by simp) ?_
        refine AllReadyH.cons (i := 8) (o := { dst := some 41, op := Op.call { callee := Callee.value (Operand.func 29), args := #[Operand.tmp 33, Operand.tmp 38, Operand.tmp 39, Operand.tmp 40], argTypes := #[33, 25, 3, 3] }, type := 33, pos := "event.go:50", after := #[{ on := 0, ground := Ground.data }, { on := 5, ground := Ground.data }, { on := 6, ground := Ground.data }, { on := 7, ground := Ground.data }], guard := none }) rfl (fun K hK => ?_) AllReadyH.nil
        go_simp
        refine (CALL1.out).mono ?_
        rintro e w5 ⟨q5, c5, rfl, h5, hc5, hm5⟩
        obtain ⟨⟨cb5, fb5⟩, a5, r5, st5, kp5, kf5⟩ := STEP.out W w5 _ _ _ _ _ _ HI.out HQ1.out HO1.out h5 ⟨hc5.os, hc5.tape, hc5.output, hc5.size, hc5.block⟩ hm5
        have ST1 := hide st5
        have KP1 := hide kp5
        have KF1 := hide kf5
        have S5 : Hid ((fun X : World => X.cell? ⟨w2.heap.size, 0, none⟩ = some (.slice (some ⟨w1.heap.size, 0, none⟩) l.length l.length) ∧ X.cell? ⟨w1.heap.size, n * 2, none⟩ = some (hAt V (n * 2))) w5) := ⟨a5.cell, owns_cell r5.row rfl (hAt_at (by rw [r5.len]; exact HPL1.out))⟩
        clear h5 hc5 hm5 a5 r5 st5 kp5 kf5
        go_wp2_with fail
        refine hK.out _ _ ?_ (fun hHeld => ?_)
        · exact S5.out
        clear hK K
        refine wpAnyH_ready (rs := [9]) (by kernel_rfl) (by simp) ?_
        refine AllReadyH.cons (i := 9) (o := { dst := none, op := Op.store 33 (Operand.tmp 13) (Operand.tmp 41), type := 0, pos := "event.go:50", after := #[{ on := 8, ground := Ground.data }, { on := 8, ground := Ground.chain }, { on := 0, ground := Ground.phase }, { on := 1, ground := Ground.phase }, { on := 2, ground := Ground.phase }, { on := 3, ground := Ground.phase }, { on := 4, ground := Ground.phase }, { on := 5, ground := Ground.phase }, { on := 6, ground := Ground.phase }, { on := 7, ground := Ground.phase }, { on := 8, ground := Ground.phase }], guard := none }) rfl (fun K hK => ?_) AllReadyH.nil
        go_simp
        refine hK.out _ _ ?_ (fun hHeld => ?_)
        · exact ⟨ST1.out.box.cell, (ROW1.out _ _ ST1.out).1⟩
        clear hK K
        refine wpAnyH_done (by kernel_rfl) ?_ _
        clear cb5 fb5 S5 cb1 hs1 CALL1 hHeld
        generalize hw1 : w5.setCell ⟨w2.heap.size + 1, 0, none⟩ (.slice q5 ds1.length c5) = w51 at *
        gi_wp2
        exact ⟨KF1.out, KP1.out, by show StC _ _ _ _ _ _ _ _ _ (((stopsP xs b).take (i + 1)).flatMap (stepC all k)) _; rw [ES.out]; exact ST1.out⟩
      · have ES : Hid (((stopsP xs b).take (i + 1)).flatMap (stepC all k) = (cs ++ putC n 2 (idxF (n : Int) k true 0 all)) ++ putC n 2 (idxF (n : Int) k false 0 all)) := by
          show _ = _
          rw [TKi, SS.out, e2, if_neg (by decide), if_neg (by decide), List.append_assoc]
        rw [e1, e2]
        clear TKi SS e1 e2 m2 m3
        generalize idxF (n : Int) k true 0 all = ya at *
        generalize idxF (n : Int) k false 0 all = yb at *
        obtain ⟨q1, c1, hq1, ho1⟩ := HI.out.row
        obtain ⟨ds1, hds1⟩ : ∃ ds, cs ++ putC n 2 ya = ds := ⟨_, rfl⟩
        have DL1 : ds1.length ≤ cs.length + 1000 := by rw [← hds1, List.length_append, putC, List.length_map]; omega
        rw [hds1] at ES
        have cb1 := hq1.cell
        have hs1 : (fun X : World => X.cell? ⟨w2.heap.size, 0, none⟩ = some (.slice (some ⟨w1.heap.size, 0, none⟩) l.length l.length) ∧ X.cell? ⟨w1.heap.size, n * 2, none⟩ = some (hAt V (n * 2))) W.drew := ⟨HI.out.box.cell, (ROW1.out _ _ HI.out).1⟩
        have CALL1 := hide (evCalling_any w4.heap.size q1 c1 (cs) (hAt V (n * 2)) ya (n : Int) 2 W.drew ho1 HI.out.size (ROW1.out _ _ HI.out).2 (fun b o kq e => LO1.out b o kq _ e) (by omega) (by omega))
        rw [hds1] at CALL1
        clear hds1
        have HQ1 := hide hq1
        have HO1 := hide ho1
        clear hq1 ho1
        gi_wp2
        refine region_round (S := (fun X : World => X.cell? ⟨w2.heap.size, 0, none⟩ = some (.slice (some ⟨w1.heap.size, 0, none⟩) l.length l.length) ∧ X.cell? ⟨w1.heap.size, n * 2, none⟩ = some (hAt V (n * 2)))) (by kernel_rfl) (by kernel_rfl) (by rintro ⟨_, _, h⟩; exact h) hs1 (fun hHeld => ?_)
        refine wpAnyH_take (i := 1) (oi := { dst := some 34, op := Op.load 50 (Operand.tmp 12), type := 50, pos := "event.go:50", after := #[], guard := none }) (v := ?_) rfl (by kernel_rfl) (by kernel_rfl) (by kernel_rfl) (fun _ _ _ h => h) (Or.inl ⟨by rfl, ?_⟩) (by assumption) ?_
        rotate_left
        · (intro w hSw; (try dsimp only at hSw); first | (go_simp; done) | (go_simp; with_reducible rfl))
        simp only [Act.put, List.setIfInBounds_toArray, List.set_cons_zero, List.set_cons_succ]
        refine wpAnyH_take (i := 2) (oi := { dst := some 35, op := Op.move (Operand.tmp 14), type := 3, pos := "event.go:50", after := #[], guard := none }) (v := ?_) rfl (by kernel_rfl) (by kernel_rfl) (by kernel_rfl) (fun _ _ _ h => h) (Or.inl ⟨by rfl, ?_⟩) (by assumption) ?_
        rotate_left
        · (intro w hSw; (try dsimp only at hSw); first | (go_simp; done) | (go_simp; with_reducible rfl))
        simp only [Act.put, List.setIfInBounds_toArray, List.set_cons_zero, List.set_cons_succ]
        refine wpAnyH_take (i := 3) (oi := { dst := some 36, op := Op.indexAddr 50 (Operand.tmp 34) (Operand.tmp 35), type := 0, pos := "event.go:50", after := #[{ on := 1, ground := Ground.data }, { on := 2, ground := Ground.data }], guard := none }) (v := ?_) rfl (by kernel_rfl) (by kernel_rfl) (by kernel_rfl) (fun _ _ _ h => h) (Or.inl ⟨by rfl, ?_⟩) (by assumption) ?_
        rotate_left
        · (intro w hSw; (try dsimp only at hSw); first | (go_simp; done) | (go_simp; with_reducible rfl))
        simp only [Act.put, List.setIfInBounds_toArray, List.set_cons_zero, List.set_cons_succ]
        refine wpAnyH_take (i := 4) (oi := { dst := some 37, op := Op.fieldAddr 57 (Operand.tmp 36) 0, type := 0, pos := "event.go:50", after := #[{ on := 3, ground := Ground.data }], guard := none }) (v := ?_) rfl (by kernel_rfl) (by kernel_rfl) (by kernel_rfl) (fun _ _ _ h => h) (Or.inl ⟨by rfl, ?_⟩) (by assumption) ?_
        rotate_left
        · (intro w hSw; (try dsimp only at hSw); first | (go_simp; done) | (go_simp; with_reducible rfl))
        simp only [Act.put, List.setIfInBounds_toArray, List.set_cons_zero, List.set_cons_succ]
        refine wpAnyH_take (i := 5) (oi := { dst := some 38, op := Op.load 25 (Operand.tmp 37), type := 25, pos := "event.go:50", after := #[{ on := 4, ground := Ground.data }], guard := none }) (v := ?_) rfl (by kernel_rfl) (by kernel_rfl) (by kernel_rfl) (fun _ _ _ h => h) (Or.inl ⟨by rfl, ?_⟩) (by assumption) ?_
        rotate_left
        · (intro w hSw; (try dsimp only at hSw); first | (go_simp; done) | (go_simp; with_reducible rfl))
        simp only [Act.put, List.setIfInBounds_toArray, List.set_cons_zero, List.set_cons_succ]
        refine wpAnyH_take (i := 6) (oi := { dst := some 39, op := Op.move (Operand.tmp 14), type := 3, pos := "event.go:50", after := #[], guard := none }) (v := ?_) rfl (by kernel_rfl) (by kernel_rfl) (by kernel_rfl) (fun _ _ _ h => h) (Or.inl ⟨by rfl, ?_⟩) (by assumption) ?_
        rotate_left
        · (intro w hSw; (try dsimp only at hSw); first | (go_simp; done) | (go_simp; with_reducible rfl))
        simp only [Act.put, List.setIfInBounds_toArray, List.set_cons_zero, List.set_cons_succ]
        refine wpAnyH_take (i := 7) (oi := { dst := some 40, op := Op.move (Operand.tmp 15), type := 3, pos := "event.go:50", after := #[], guard := none }) (v := ?_) rfl (by kernel_rfl) (by kernel_rfl) (by kernel_rfl) (fun _ _ _ h => h) (Or.inl ⟨by rfl, ?_⟩) (by assumption) ?_
        rotate_left
        · (intro w hSw; (try dsimp only at hSw); first | (go_simp; done) | (go_simp; with_reducible rfl))
        simp only [Act.put, List.setIfInBounds_toArray, List.set_cons_zero, List.set_cons_succ]
        refine wpAnyH_ready (rs := [0]) (by kernel_rfl) (by simp) ?_
        refine AllReadyH.cons (i := 0) (o := { dst := some 33, op := Op.load 33 (Operand.tmp 13), type := 33, pos := "event.go:50", after := #[], guard := none }) rfl (fun K hK => ?_) AllReadyH.nil
        go_simp
        refine hK.out _ _ ?_ (fun hHeld => ?_)
        · exact hHeld
        clear hK K
        refine wpAnyH_ready (rs := [8]) (by kernel_rfl) (by simp) ?_
        refine AllReadyH.cons (i := 8) (o := { dst := some 41, op := Op.call { callee := Callee.value (Operand.func 29), args := #[Operand.tmp 33, Operand.tmp 38, Operand.tmp 39, Operand.tmp 40], argTypes := #[33, 25, 3, 3] }, type := 33, pos := "event.go:50", after := #[{ on := 0, ground := Ground.data }, { on := 5, ground := Ground.data }, { on := 6, ground := Ground.data }, { on := 7, ground := Ground.data }], guard := none }) rfl (fun K hK => ?_) AllReadyH.nil
        go_simp
        refine (CALL1.out).mono ?_
        rintro e w5 ⟨q5, c5, rfl, h5, hc5, hm5⟩
        obtain ⟨⟨cb5, fb5⟩, a5, r5, st5, kp5, kf5⟩ := STEP.out W w5 _ _ _ _ _ _ HI.out HQ1.out HO1.out h5 ⟨hc5.os, hc5.tape, hc5.output, hc5.size, hc5.block⟩ hm5
        have ST1 := hide st5
        have KP1 := hide kp5
        have KF1 := hide kf5
        have S5 : Hid ((fun X : World => X.cell? ⟨w2.heap.size, 0, none⟩ = some (.slice (some ⟨w1.heap.size, 0, none⟩) l.length l.length) ∧ X.cell? ⟨w1.heap.size, n * 2, none⟩ = some (hAt V (n * 2))) w5) := ⟨a5.cell, owns_cell r5.row rfl (hAt_at (by rw [r5.len]; exact HPL1.out))⟩
        clear h5 hc5 hm5 a5 r5 st5 kp5 kf5
        go_wp2_with fail
        refine hK.out _ _ ?_ (fun hHeld => ?_)
        · exact S5.out
        clear hK K
        refine wpAnyH_ready (rs := [9]) (by kernel_rfl) (by simp) ?_
        refine AllReadyH.cons (i := 9) (o := { dst := none, op := Op.store 33 (Operand.tmp 13) (Operand.tmp 41), type := 0, pos := "event.go:50", after := #[{ on := 8, ground := Ground.data }, { on := 8, ground := Ground.chain }, { on := 0, ground := Ground.phase }, { on := 1, ground := Ground.phase }, { on := 2, ground := Ground.phase }, { on := 3, ground := Ground.phase }, { on := 4, ground := Ground.phase }, { on := 5, ground := Ground.phase }, { on := 6, ground := Ground.phase }, { on := 7, ground := Ground.phase }, { on := 8, ground := Ground.phase }], guard := none }) rfl (fun K hK => ?_) AllReadyH.nil
        go_simp
        refine hK.out _ _ ?_ (fun hHeld => ?_)
        · exact ⟨ST1.out.box.cell, (ROW1.out _ _ ST1.out).1⟩
        clear hK K
        refine wpAnyH_done (by kernel_rfl) ?_ _
        clear cb5 fb5 S5 cb1 hs1 CALL1 hHeld
        generalize hw1 : w5.setCell ⟨w2.heap.size + 1, 0, none⟩ (.slice q5 ds1.length c5) = w51 at *
        obtain ⟨q2, c2, hq2, ho2⟩ := ST1.out.row
        obtain ⟨ds2, hds2⟩ : ∃ ds, ds1 ++ putC n 2 yb = ds := ⟨_, rfl⟩
        have DL2 : ds2.length ≤ ds1.length + 1000 := by rw [← hds2, List.length_append, putC, List.length_map]; omega
        rw [hds2] at ES
        have cb2 := hq2.cell
        have hs2 : (fun X : World => X.cell? ⟨w2.heap.size, 0, none⟩ = some (.slice (some ⟨w1.heap.size, 0, none⟩) l.length l.length) ∧ X.cell? ⟨w1.heap.size, n * 2 + 1, none⟩ = some (hAt V (n * 2 + 1))) w51.drew := ⟨ST1.out.box.cell, (ROW2.out _ _ ST1.out).1⟩
        have CALL2 := hide (evCalling_any w4.heap.size q2 c2 (ds1) (hAt V (n * 2 + 1)) yb (n : Int) 2 w51.drew ho2 ST1.out.size (ROW2.out _ _ ST1.out).2 (fun b o kq e => LO2.out b o kq _ e) (by omega) (by omega))
        rw [hds2] at CALL2
        clear hds2
        have HQ2 := hide hq2
        have HO2 := hide ho2
        clear hq2 ho2
        gi_wp2
        refine region_round (S := (fun X : World => X.cell? ⟨w2.heap.size, 0, none⟩ = some (.slice (some ⟨w1.heap.size, 0, none⟩) l.length l.length) ∧ X.cell? ⟨w1.heap.size, n * 2 + 1, none⟩ = some (hAt V (n * 2 + 1)))) (by kernel_rfl) (by kernel_rfl) (by rintro ⟨_, _, h⟩; exact h) hs2 (fun hHeld => ?_)
        refine wpAnyH_take (i := 1) (oi := { dst := some 45, op := Op.load 50 (Operand.tmp 12), type := 50, pos := "event.go:53", after := #[], guard := none }) (v := ?_) rfl (by kernel_rfl) (by kernel_rfl) (by kernel_rfl) (fun _ _ _ h => h) (Or.inl ⟨by rfl, ?_⟩) (by assumption) ?_
        rotate_left
        · (intro w hSw; (try dsimp only at hSw); first | (go_simp; done) | (go_simp; with_reducible rfl))
        simp only [Act.put, List.setIfInBounds_toArray, List.set_cons_zero, List.set_cons_succ]
        refine wpAnyH_take (i := 2) (oi := { dst := some 46, op := Op.move (Operand.tmp 14), type := 3, pos := "event.go:53", after := #[], guard := none }) (v := ?_) rfl (by kernel_rfl) (by kernel_rfl) (by kernel_rfl) (fun _ _ _ h => h) (Or.inl ⟨by rfl, ?_⟩) (by assumption) ?_
        rotate_left
        · (intro w hSw; (try dsimp only at hSw); first | (go_simp; done) | (go_simp; with_reducible rfl))
        simp only [Act.put, List.setIfInBounds_toArray, List.set_cons_zero, List.set_cons_succ]
        refine wpAnyH_take (i := 3) (oi := { dst := some 47, op := Op.indexAddr 50 (Operand.tmp 45) (Operand.tmp 46), type := 0, pos := "event.go:53", after := #[{ on := 1, ground := Ground.data }, { on := 2, ground := Ground.data }], guard := none }) (v := ?_) rfl (by kernel_rfl) (by kernel_rfl) (by kernel_rfl) (fun _ _ _ h => h) (Or.inl ⟨by rfl, ?_⟩) (by assumption) ?_
        rotate_left
        · (intro w hSw; (try dsimp only at hSw); first | (go_simp; done) | (go_simp; with_reducible rfl))
        simp only [Act.put, List.setIfInBounds_toArray, List.set_cons_zero, List.set_cons_succ]
        refine wpAnyH_take (i := 4) (oi := { dst := some 48, op := Op.fieldAddr 57 (Operand.tmp 47) 1, type := 0, pos := "event.go:53", after := #[{ on := 3, ground := Ground.data }], guard := none }) (v := ?_) rfl (by kernel_rfl) (by kernel_rfl) (by kernel_rfl) (fun _ _ _ h => h) (Or.inl ⟨by rfl, ?_⟩) (by assumption) ?_
        rotate_left
        · (intro w hSw; (try dsimp only at hSw); first | (go_simp; done) | (go_simp; with_reducible rfl))
        simp only [Act.put, List.setIfInBounds_toArray, List.set_cons_zero, List.set_cons_succ]
        refine wpAnyH_take (i := 5) (oi := { dst := some 49, op := Op.load 25 (Operand.tmp 48), type := 25, pos := "event.go:53", after := #[{ on := 4, ground := Ground.data }], guard := none }) (v := ?_) rfl (by kernel_rfl) (by kernel_rfl) (by kernel_rfl) (fun _ _ _ h => h) (Or.inl ⟨by rfl, ?_⟩) (by assumption) ?_
        rotate_left
        · (intro w hSw; (try dsimp only at hSw); first | (go_simp; done) | (go_simp; with_reducible rfl))
        simp only [Act.put, List.setIfInBounds_toArray, List.set_cons_zero, List.set_cons_succ]
        refine wpAnyH_take (i := 6) (oi := { dst := some 50, op := Op.move (Operand.tmp 14), type := 3, pos := "event.go:53", after := #[], guard := none }) (v := ?_) rfl (by kernel_rfl) (by kernel_rfl) (by kernel_rfl) (fun _ _ _ h => h) (Or.inl ⟨by rfl, ?_⟩) (by assumption) ?_
        rotate_left
        · (intro w hSw; (try dsimp only at hSw); first | (go_simp; done) | (go_simp; with_reducible rfl))
        simp only [Act.put, List.setIfInBounds_toArray, List.set_cons_zero, List.set_cons_succ]
        refine wpAnyH_take (i := 7) (oi := { dst := some 51, op := Op.move (Operand.tmp 15), type := 3, pos := "event.go:53", after := #[], guard := none }) (v := ?_) rfl (by kernel_rfl) (by kernel_rfl) (by kernel_rfl) (fun _ _ _ h => h) (Or.inl ⟨by rfl, ?_⟩) (by assumption) ?_
        rotate_left
        · (intro w hSw; (try dsimp only at hSw); first | (go_simp; done) | (go_simp; with_reducible rfl))
        simp only [Act.put, List.setIfInBounds_toArray, List.set_cons_zero, List.set_cons_succ]
        refine wpAnyH_ready (rs := [0]) (by kernel_rfl) (by simp) ?_
        refine AllReadyH.cons (i := 0) (o := { dst := some 44, op := Op.load 33 (Operand.tmp 13), type := 33, pos := "event.go:53", after := #[], guard := none }) rfl (fun K hK => ?_) AllReadyH.nil
        go_simp
        refine hK.out _ _ ?_ (fun hHeld => ?_)
        · exact hHeld
        clear hK K
        refine wpAnyH_ready (rs := [8]) (by kernel_rfl) (by simp) ?_
        refine AllReadyH.cons (i := 8) (o := { dst := some 52, op := Op.call { callee := Callee.value (Operand.func 29), args := #[Operand.tmp 44, Operand.tmp 49, Operand.tmp 50, Operand.tmp 51], argTypes := #[33, 25, 3, 3] }, type := 33, pos := "event.go:53", after := #[{ on := 0, ground := Ground.data }, { on := 5, ground := Ground.data }, { on := 6, ground := Ground.data }, { on := 7, ground := Ground.data }], guard := none }) rfl (fun K hK => ?_) AllReadyH.nil
        go_simp
        refine (CALL2.out).mono ?_
        rintro e w5 ⟨q5, c5, rfl, h5, hc5, hm5⟩
        obtain ⟨⟨cb5, fb5⟩, a5, r5, st5, kp5, kf5⟩ := STEP.out w51 w5 _ _ _ _ _ _ ST1.out HQ2.out HO2.out h5 ⟨hc5.os, hc5.tape, hc5.output, hc5.size, hc5.block⟩ hm5
        have ST2 := hide st5
        have KP2 := hide kp5
        have KF2 := hide kf5
        have S5 : Hid ((fun X : World => X.cell? ⟨w2.heap.size, 0, none⟩ = some (.slice (some ⟨w1.heap.size, 0, none⟩) l.length l.length) ∧ X.cell? ⟨w1.heap.size, n * 2 + 1, none⟩ = some (hAt V (n * 2 + 1))) w5) := ⟨a5.cell, owns_cell r5.row rfl (hAt_at (by rw [r5.len]; exact HPL2.out))⟩
        clear h5 hc5 hm5 a5 r5 st5 kp5 kf5
        go_wp2_with fail
        refine hK.out _ _ ?_ (fun hHeld => ?_)
        · exact S5.out
        clear hK K
        refine wpAnyH_ready (rs := [9]) (by kernel_rfl) (by simp) ?_
        refine AllReadyH.cons (i := 9) (o := { dst := none, op := Op.store 33 (Operand.tmp 13) (Operand.tmp 52), type := 0, pos := "event.go:53", after := #[{ on := 8, ground := Ground.data }, { on := 8, ground := Ground.chain }, { on := 0, ground := Ground.phase }, { on := 1, ground := Ground.phase }, { on := 2, ground := Ground.phase }, { on := 3, ground := Ground.phase }, { on := 4, ground := Ground.phase }, { on := 5, ground := Ground.phase }, { on := 6, ground := Ground.phase }, { on := 7, ground := Ground.phase }, { on := 8, ground := Ground.phase }], guard := none }) rfl (fun K hK => ?_) AllReadyH.nil
        go_simp
        refine hK.out _ _ ?_ (fun hHeld => ?_)
        · exact ⟨ST2.out.box.cell, (ROW2.out _ _ ST2.out).1⟩
        clear hK K
        refine wpAnyH_done (by kernel_rfl) ?_ _
        clear cb5 fb5 S5 cb2 hs2 CALL2 hHeld
        generalize hw2 : w5.setCell ⟨w2.heap.size + 1, 0, none⟩ (.slice q5 ds2.length c5) = w52 at *
        gi_wp2
        exact ⟨⟨Nat.le_trans KF1.out.size KF2.out.size, fun x o hx h1 h2 => KF2.out.same x o hx (KF1.out.same x o hx h1 h2) h2⟩, KP1.out.trans KP2.out, by show StC _ _ _ _ _ _ _ _ _ (((stopsP xs b).take (i + 1)).flatMap (stepC all k)) _; rw [ES.out]; exact ST2.out⟩
      · have ES : Hid (((stopsP xs b).take (i + 1)).flatMap (stepC all k) = cs ++ putC n 3 (idxF (n : Int) k false 0 all)) := by
          show _ = _
          rw [TKi, SS.out, e2, if_pos rfl, if_neg (by decide), List.nil_append]
        rw [e1, e2]
        clear TKi SS e1 e2 m2 m3
        generalize idxF (n : Int) k true 0 all = ya at *
        generalize idxF (n : Int) k false 0 all = yb at *
        obtain ⟨q1, c1, hq1, ho1⟩ := HI.out.row
        obtain ⟨ds1, hds1⟩ : ∃ ds, cs ++ putC n 3 yb = ds := ⟨_, rfl⟩
        have DL1 : ds1.length ≤ cs.length + 1000 := by rw [← hds1, List.length_append, putC, List.length_map]; omega
        rw [hds1] at ES
        have cb1 := hq1.cell
        have hs1 : (fun X : World => X.cell? ⟨w2.heap.size, 0, none⟩ = some (.slice (some ⟨w1.heap.size, 0, none⟩) l.length l.length) ∧ X.cell? ⟨w1.heap.size, n * 2 + 1, none⟩ = some (hAt V (n * 2 + 1))) W.drew := ⟨HI.out.box.cell, (ROW2.out _ _ HI.out).1⟩
        have CALL1 := hide (evCalling_any w4.heap.size q1 c1 (cs) (hAt V (n * 2 + 1)) yb (n : Int) 3 W.drew ho1 HI.out.size (ROW2.out _ _ HI.out).2 (fun b o kq e => LO2.out b o kq _ e) (by omega) (by omega))
        rw [hds1] at CALL1
        clear hds1
        have HQ1 := hide hq1
        have HO1 := hide ho1
        clear hq1 ho1
        gi_wp2
        refine region_round (S := (fun X : World => X.cell? ⟨w2.heap.size, 0, none⟩ = some (.slice (some ⟨w1.heap.size, 0, none⟩) l.length l.length) ∧ X.cell? ⟨w1.heap.size, n * 2 + 1, none⟩ = some (hAt V (n * 2 + 1)))) (by kernel_rfl) (by kernel_rfl) (by rintro ⟨_, _, h⟩; exact h) hs1 (fun hHeld => ?_)
        refine wpAnyH_take (i := 1) (oi := { dst := some 45, op := Op.load 50 (Operand.tmp 12), type := 50, pos := "event.go:53", after := #[], guard := none }) (v := ?_) rfl (by kernel_rfl) (by kernel_rfl) (by kernel_rfl) (fun _ _ _ h => h) (Or.inl ⟨by rfl, ?_⟩) (by assumption) ?_
        rotate_left
        · (intro w hSw; (try dsimp only at hSw); first | (go_simp; done) | (go_simp; with_reducible rfl))
        simp only [Act.put, List.setIfInBounds_toArray, List.set_cons_zero, List.set_cons_succ]
        refine wpAnyH_take (i := 2) (oi := { dst := some 46, op := Op.move (Operand.tmp 14), type := 3, pos := "event.go:53", after := #[], guard := none }) (v := ?_) rfl (by kernel_rfl) (by kernel_rfl) (by kernel_rfl) (fun _ _ _ h => h) (Or.inl ⟨by rfl, ?_⟩) (by assumption) ?_
        rotate_left
        · (intro w hSw; (try dsimp only at hSw); first | (go_simp; done) | (go_simp; with_reducible rfl))
        simp only [Act.put, List.setIfInBounds_toArray, List.set_cons_zero, List.set_cons_succ]
        refine wpAnyH_take (i := 3) (oi := { dst := some 47, op := Op.indexAddr 50 (Operand.tmp 45) (Operand.tmp 46), type := 0, pos := "event.go:53", after := #[{ on := 1, ground := Ground.data }, { on := 2, ground := Ground.data }], guard := none }) (v := ?_) rfl (by kernel_rfl) (by kernel_rfl) (by kernel_rfl) (fun _ _ _ h => h) (Or.inl ⟨by rfl, ?_⟩) (by assumption) ?_
        rotate_left
        · (intro w hSw; (try dsimp only at hSw); first | (go_simp; done) | (go_simp; with_reducible rfl))
        simp only [Act.put, List.setIfInBounds_toArray, List.set_cons_zero, List.set_cons_succ]
        refine wpAnyH_take (i := 4) (oi := { dst := some 48, op := Op.fieldAddr 57 (Operand.tmp 47) 1, type := 0, pos := "event.go:53", after := #[{ on := 3, ground := Ground.data }], guard := none }) (v := ?_) rfl (by kernel_rfl) (by kernel_rfl) (by kernel_rfl) (fun _ _ _ h => h) (Or.inl ⟨by rfl, ?_⟩) (by assumption) ?_
        rotate_left
        · (intro w hSw; (try dsimp only at hSw); first | (go_simp; done) | (go_simp; with_reducible rfl))
        simp only [Act.put, List.setIfInBounds_toArray, List.set_cons_zero, List.set_cons_succ]
        refine wpAnyH_take (i := 5) (oi := { dst := some 49, op := Op.load 25 (Operand.tmp 48), type := 25, pos := "event.go:53", after := #[{ on := 4, ground := Ground.data }], guard := none }) (v := ?_) rfl (by kernel_rfl) (by kernel_rfl) (by kernel_rfl) (fun _ _ _ h => h) (Or.inl ⟨by rfl, ?_⟩) (by assumption) ?_
        rotate_left
        · (intro w hSw; (try dsimp only at hSw); first | (go_simp; done) | (go_simp; with_reducible rfl))
        simp only [Act.put, List.setIfInBounds_toArray, List.set_cons_zero, List.set_cons_succ]
        refine wpAnyH_take (i := 6) (oi := { dst := some 50, op := Op.move (Operand.tmp 14), type := 3, pos := "event.go:53", after := #[], guard := none }) (v := ?_) rfl (by kernel_rfl) (by kernel_rfl) (by kernel_rfl) (fun _ _ _ h => h) (Or.inl ⟨by rfl, ?_⟩) (by assumption) ?_
        rotate_left
        · (intro w hSw; (try dsimp only at hSw); first | (go_simp; done) | (go_simp; with_reducible rfl))
        simp only [Act.put, List.setIfInBounds_toArray, List.set_cons_zero, List.set_cons_succ]
        refine wpAnyH_take (i := 7) (oi := { dst := some 51, op := Op.move (Operand.tmp 15), type := 3, pos := "event.go:53", after := #[], guard := none }) (v := ?_) rfl (by kernel_rfl) (by kernel_rfl) (by kernel_rfl) (fun _ _ _ h => h) (Or.inl ⟨by rfl, ?_⟩) (by assumption) ?_
        rotate_left
        · (intro w hSw; (try dsimp only at hSw); first | (go_simp; done) | (go_simp; with_reducible rfl))
        simp only [Act.put, List.setIfInBounds_toArray, List.set_cons_zero, List.set_cons_succ]
        refine wpAnyH_ready (rs := [0]) (by kernel_rfl) (by simp) ?_
        refine AllReadyH.cons (i := 0) (o := { dst := some 44, op := Op.load 33 (Operand.tmp 13), type := 33, pos := "event.go:53", after := #[], guard := none }) rfl (fun K hK => ?_) AllReadyH.nil
        go_simp
        refine hK.out _ _ ?_ (fun hHeld => ?_)
        · exact hHeld
        clear hK K
        refine wpAnyH_ready (rs := [8]) (by kernel_rfl) (by simp) ?_
        refine AllReadyH.cons (i := 8) (o := { dst := some 52, op := Op.call { callee := Callee.value (Operand.func 29), args := #[Operand.tmp 44, Operand.tmp 49, Operand.tmp 50, Operand.tmp 51], argTypes := #[33, 25, 3, 3] }, type := 33, pos := "event.go:53", after := #[{ on := 0, ground := Ground.data }, { on := 5, ground := Ground.data }, { on := 6, ground := Ground.data }, { on := 7, ground := Ground.data }], guard := none }) rfl (fun K hK => ?_) AllReadyH.nil
        go_simp
        refine (CALL1.out).mono ?_
        rintro e w5 ⟨q5, c5, rfl, h5, hc5, hm5⟩
        obtain ⟨⟨cb5, fb5⟩, a5, r5, st5, kp5, kf5⟩ := STEP.out W w5 _ _ _ _ _ _ HI.out HQ1.out HO1.out h5 ⟨hc5.os, hc5.tape, hc5.output, hc5.size, hc5.block⟩ hm5
        have ST1 := hide st5
        have KP1 := hide kp5
        have KF1 := hide kf5
        have S5 : Hid ((fun X : World => X.cell? ⟨w2.heap.size, 0, none⟩ = some (.slice (some ⟨w1.heap.size, 0, none⟩) l.length l.length) ∧ X.cell? ⟨w1.heap.size, n * 2 + 1, none⟩ = some (hAt V (n * 2 + 1))) w5) := ⟨a5.cell, owns_cell r5.row rfl (hAt_at (by rw [r5.len]; exact HPL2.out))⟩
        clear h5 hc5 hm5 a5 r5 st5 kp5 kf5
        go_wp2_with fail
        refine hK.out _ _ ?_ (fun hHeld => ?_)
        · exact S5.out
        clear hK K
        refine wpAnyH_ready (rs := [9]) (by kernel_rfl) (by simp) ?_
        refine AllReadyH.cons (i := 9) (o := { dst := none, op := Op.store 33 (Operand.tmp 13) (Operand.tmp 52), type := 0, pos := "event.go:53", after := #[{ on := 8, ground := Ground.data }, { on := 8, ground := Ground.chain }, { on := 0, ground := Ground.phase }, { on := 1, ground := Ground.phase }, { on := 2, ground := Ground.phase }, { on := 3, ground := Ground.phase }, { on := 4, ground := Ground.phase }, { on := 5, ground := Ground.phase }, { on := 6, ground := Ground.phase }, { on := 7, ground := Ground.phase }, { on := 8, ground := Ground.phase }], guard := none }) rfl (fun K hK => ?_) AllReadyH.nil
        go_simp
        refine hK.out _ _ ?_ (fun hHeld => ?_)
        · exact ⟨ST1.out.box.cell, (ROW2.out _ _ ST1.out).1⟩
        clear hK K
        refine wpAnyH_done (by kernel_rfl) ?_ _
        clear cb5 fb5 S5 cb1 hs1 CALL1 hHeld
        generalize hw1 : w5.setCell ⟨w2.heap.size + 1, 0, none⟩ (.slice q5 ds1.length c5) = w51 at *
        gi_wp2
        exact ⟨KF1.out, KP1.out, by show StC _ _ _ _ _ _ _ _ _ (((stopsP xs b).take (i + 1)).flatMap (stepC all k)) _; rw [ES.out]; exact ST1.out⟩
    case done =>
      rintro D W hD hI hK
      rw [SLN.out, List.take_length, ← EC.out] at hI
      obtain ⟨q, c2, hq, ho⟩ := hI.row
      have cb := hq.cell
      have hb := hide hI.below
      have ho := hide ho
      obtain ⟨res, hres⟩ : ∃ res, callsP l all t k b = res := ⟨_, rfl⟩
      rw [hres] at cb ho
      have HRS := hide hres
      clear hI hres hq
      gi_wp2
      refine ⟨by simp, .inl ⟨_, _, rfl, run_takeDeferred hK, ?_⟩⟩
      have ho2 : ClsO w4.heap.size (W.putObj D (.deferred none)) (.slice q res.length c2) res := ownsRow_putObj ho.out _ hK rfl
      exact ⟨_, results_tmp rfl _ _ _, _, rfl, (by show ClsV _ (.slice q res.length c2) (callsP l all t k b); rw [HRS.out]; exact ho2.cls), hb.out.trans (belowK_b (w := w) (Nat.le_refl _) W D _ _ (by omega) hK rfl rfl)⟩

end Go.Proofs.Ytmobcijigiacoaa
