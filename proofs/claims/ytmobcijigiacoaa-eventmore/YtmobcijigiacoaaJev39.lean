/- Listeners and calls as they lie in the world. Stage 23's law EventMore, walked. -/
import Derived.Test.YtmobcijigiacoaaJev21
import Derived.Test.YtmobcijigiacoaaJev24
import Derived.Test.YtmobcijigiacoaaJev27
import Derived.Test.YtmobcijigiacoaaJev30
import Derived.Test.YtmobcijigiacoaaJev38

namespace Go.Proofs.Ytmobcijigiacoaa
open Go.RowKit
theorem cellsL_app : ∀ {xs ys : List Ls} {A : List Value}, cellsL (xs ++ ys) A = cellsL xs A ++ cellsL ys (A.drop xs.length)
  | [], ys, A => rfl
  | x :: xs, ys, A => by
    show lsCells x (aAt A 0) ++ cellsL (xs ++ ys) (A.drop 1) = (lsCells x (aAt A 0) ++ cellsL xs (A.drop 1)) ++ _
    rw [cellsL_app, List.append_assoc, List.drop_drop, List.length_cons, Nat.add_comm]
theorem acts_take {A : List Value} (h : ActsOK A) (n : Nat) : ActsOK (A.take n) := ⟨fun i => by
  unfold aAt
  rw [List.getD_eq_getElem?_getD, List.getElem?_take]
  split
  · have := h.sl i
    unfold aAt at this
    rw [List.getD_eq_getElem?_getD] at this
    exact this
  · exact ⟨none, 0, 0, rfl⟩⟩
theorem cellsL_take : ∀ {xs : List Ls} {A : List Value}, cellsL xs (A.take xs.length) = cellsL xs A
  | [], _ => rfl
  | x :: xs, A => by
    show lsCells x (aAt (A.take (xs.length + 1)) 0) ++ cellsL xs ((A.take (xs.length + 1)).drop 1) = lsCells x (aAt A 0) ++ cellsL xs (A.drop 1)
    have e1 : aAt (A.take (xs.length + 1)) 0 = aAt A 0 := by
      unfold aAt
      cases A <;> rfl
    have e2 : (A.take (xs.length + 1)).drop 1 = (A.drop 1).take xs.length := by cases A <;> simp
    rw [e1, e2, cellsL_take]
/-- One more listener, which does nothing. -/
theorem LsO.push {B : Nat} {w' : World} {v' : Value} {all : List Ls} {A : List Value} {x : Ls} (hA : ActsOK A) (hr : w'.ownsRow B 41 4 v' (all.length + 1) (cellsL all A ++ lsCells x (.slice none 0 0))) : LsO B w' v' (all ++ [x]) (A.take all.length) := by
  refine ⟨acts_take hA _, ?_⟩
  rw [cellsL_app, cellsL_take, List.length_append]
  have e : (A.take all.length).drop all.length = [] := List.drop_eq_nil_of_le (by rw [List.length_take]; omega)
  rw [e]
  exact hr
end Go.Proofs.Ytmobcijigiacoaa

namespace Go.Proofs.Ytmobcijigiacoaa
open Go.RowKit
set_option maxRecDepth 100000
/-- Listeners at nodes that aren't on a path, one behind the other. -/
def moE (p : List Int) (k : ByteArray) : Nat → List Ls
  | 0 => []
  | n + 1 => moE p k n ++ (if (n : Int) ∉ p ∧ n < 50 then [⟨(n : Int), k, false⟩] else [])
theorem mo_len (p : List Int) (k : ByteArray) : ∀ n, (moE p k n).length ≤ n ∧ (moE p k n).length ≤ 50
  | 0 => ⟨Nat.le_refl _, Nat.zero_le _⟩
  | n + 1 => by
    have ih := mo_len p k n
    unfold moE
    rw [List.length_append]
    split
    · rename_i q
      rw [List.length_singleton]
      omega
    · simp
      omega
theorem mo_mem {p : List Int} {k : ByteArray} {x : Ls} : ∀ {n : Nat}, x ∈ moE p k n → x.node ∉ p
  | 0, h => by cases h
  | n + 1, h => by
    unfold moE at h
    rcases List.mem_append.1 h with h | h
    · exact mo_mem h
    · split at h
      · rename_i q
        rw [List.mem_singleton.1 h]
        exact q.1
      · cases h
theorem size_more (k : ByteArray) : (k ++ ⟨#[120]⟩).size = k.size + 1 := by rw [ByteArray.size_append]; rfl
theorem more_is {l : List Nd} {all : List Ls} {t : Int} {k : ByteArray} {b : Bool} {n : Nat} : callsP l ((all ++ moE (pathP l t) k n) ++ [⟨t, k ++ ⟨#[120]⟩, false⟩]) t k b = callsP l all t k b := by
  rw [List.append_assoc]
  refine calls_more fun g hg x hx => ?_
  have gp : g.1 ∈ pathP l t := by
    rcases grp_mem hg with ⟨_, m⟩ | ⟨_, m, q⟩ | ⟨_, m, _⟩
    · exact List.dropLast_subset _ m
    · by_cases h : hasN l t = true
      · rw [path_drop h, m]
        exact List.mem_append.2 (.inr (List.mem_singleton.2 rfl))
      · exact absurd (path_none (by simpa using h)) q
    · exact List.dropLast_subset _ m
  unfold lsB
  rcases List.mem_append.1 hx with hx | hx
  · rw [decide_eq_false (fun e : x.node = g.1 => mo_mem hx (e ▸ gp)), Bool.false_and]
  · rw [List.mem_singleton.1 hx]
    have : ¬ k ++ (⟨#[120]⟩ : ByteArray) = k := fun e => by
      have := congrArg ByteArray.size e
      rw [size_more] at this
      omega
    rw [decide_eq_false this, Bool.false_and, Bool.and_false]
set_option maxHeartbeats 8000000 in
theorem eventMore_walk (v vl : Value) (l : List Nd) (all : List Ls) (t : Int) (k : ByteArray) (b : Bool) (w : World) (hv : NodesV w v l) (hz : DocSz l) (hl : LsV w vl all) (hn : all.length ≤ 2513169434917) (hk : k.size ≤ 140737488351232) (hT : EvTabs w) :
    Calls Try.prog 7 #[v, vl, .agg #[.int .i64 t, .string k, .bool b]] w fun e w' => e = .returned (.bool true) ∧ Below w.heap.size w w' := by
  have B0 : Hid (Below w.heap.size w (w.alloc (.cells #[.int .i64 t, .string k, .bool b] 31))) := (Below.refl _ w).alloc (Nat.le_refl _) _
  have K0 : Hid (Bk (w.alloc (.cells #[.int .i64 t, .string k, .bool b] 31)) w.heap.size [.int .i64 t, .string k, .bool b] 31) := Bk.new w _ _
  have HW := hide (evWakes_any (w.alloc (.cells #[.int .i64 t, .string k, .bool b] 31)) (hT.below B0.out))
  have HC := hide (fun W (hb : Below w.heap.size w W) => refCopied_any v l W (hv.below hb) hz)
  have HL := hide hl
  by_cases h2 : all.length ≤ 100
  · have HP := hide (fun W (hb : Below w.heap.size w W) => refPath23_any v l t W (hv.below hb) hz)
    have H1 := hide (fun u W (hb : Below w.heap.size w W) (hu : NodesV W u l) => evCalls_any u vl l all t k b W hu hz (hl.below hb) (by omega) (hT.below hb))
    have H2 := hide (fun u ul W (hb : Below w.heap.size w W) (hu : NodesV W u l) (hul : LsV W ul ((all ++ moE (pathP l t) k l.length) ++ [⟨t, k ++ ⟨#[120]⟩, false⟩])) => evCalls_any u ul l _ t k b W hu hz hul (by
      have := mo_len (pathP l t) k l.length
      rw [List.length_append, List.length_append, List.length_singleton]
      omega) (hT.below hb))
    rw [more_is] at H2
    have FEW : (callsP l all t k b).length ≤ 1000000 := Nat.le_trans calls_len (by omega)
    have pf := path_few (l := l) (t := t)
    have ML := hide (mo_len (pathP l t) k)
    generalize callsP l all t k b = cs at *
    generalize pathP l t = P at *
    have H5 := hide (fun va vb W (ha : ClsV W va cs) (hb : ClsV W vb cs) => refSame23_yes va vb cs W ha hb FEW)
    obtain ⟨p, c, rfl⟩ : ∃ p k, v = .slice p l.length k := by obtain ⟨p, k, e, _⟩ := hv; exact ⟨p, k, e⟩
    obtain ⟨A, hA, pl, cl, rfl, _⟩ := hl
    obtain ⟨iL, hL0, hL1, hL2, hL3⟩ := info_parts info_lst
    have hlz := hz.len
    have i2 : ¬ (100 : Int) < (all.length : Int) := by omega
    clear hv hz hT hA
    go_enter Try.func7, Try.ntmps7
    go_wp2_with fail
    refine HW.out.mono ?_
    rintro e w1 ⟨rfl, b1⟩
    have B1 := hide (chain B0.out b1)
    replace K0 := hide (K0.out.below b1)
    have LT1 : w.heap.size < w1.heap.size := K0.out.lt
    clear b1 B0 HW
    have AE : Below w1.heap.size w1 (w1.alloc (.cells #[] 41)) := (Below.refl _ _).alloc (Nat.le_refl _) _
    have OE : Hid ((w1.alloc (.cells #[] 41)).ownsRow w1.heap.size 41 4 (.slice (some ⟨w1.heap.size, 0, none⟩) 0 0) 0 []) := ls_made (by omega)
    have BE := hide (chain B1.out AE)
    have RW := hide ((HL.out.choose_spec.below BE.out).raw)
    have AOK := hide HL.out.choose_spec.1
    go_upto_region 6 with (at_builtin; refine wpList_append_raw rfl _ _ _ rfl w1.heap.size 41 iL _ 4 56 Try.underlying29 hL0 hL1 hL2 hL3 rfl (by omega) _ 0 [] rfl OE.out _ all.length _ rfl RW.out (cellsL_one AOK.out) (by unfold maxLen; omega) (by omega) (Nat.le_of_lt (OE.out.lt _ rfl).2) ?_; intro q8 k8 w8 own8 gr8 at8)
    rw [Nat.zero_add, List.nil_append] at own8
    have B8 : Hid (Below w1.heap.size w1 w8) := rowGrown_below AE (by simp) gr8 (fun k e => by cases e; exact Nat.le_refl _)
    have O8 : Hid (LsO w1.heap.size w8 (.slice q8 (all ++ moE P k 0).length k8) (all ++ moE P k 0) HL.out.choose) := by
      show LsO _ _ _ _ _
      rw [show all ++ moE P k 0 = all from List.append_nil _]
      exact ⟨AOK.out, own8⟩
    clear own8 gr8 at8 OE RW BE AE AOK
    go_wp2_with fail
    go_loopw [7, 22] (fun ov iv wr => ∃ (i : Nat) (q : Option Addr) (cp : Nat) (A : List Value), i ≤ l.length ∧ iv = .int .i64 i ∧ ov = .slice q (all ++ moE P k i).length cp ∧ Hid (LsO w1.heap.size wr (.slice q (all ++ moE P k i).length cp) (all ++ moE P k i) A) ∧ Hid (Below w1.heap.size w1 wr)) (fun _ iv _ => l.length - (intOf iv).toNat)
    case atStart => exact ⟨0, q8, k8, _, Nat.zero_le _, rfl, by rw [show all ++ moE P k 0 = all from List.append_nil _], O8, B8⟩
    case round =>
      rename World => wr
      obtain ⟨i, qx, cx, A, hi, rfl, rfl, OX, BX⟩ := hrel
      clear O8 B8
      obtain ⟨ow, how⟩ : ∃ ow, all ++ moE P k i = ow := ⟨_, rfl⟩
      have lx : ow.length ≤ 150 := by
        have := ML.out i
        rw [← how, List.length_append]
        omega
      have MS0 : Hid (all ++ moE P k (i + 1) = ow ++ (if (i : Int) ∉ P ∧ i < 50 then [⟨(i : Int), k, false⟩] else [])) := by show _ = _; rw [← how, List.append_assoc]; rfl
      rw [how] at OX ⊢
      replace how := hide how
      have BXX := hide (chain B1.out BX.out)
      have KX := K0.out.below BX.out
      by_cases g : i < l.length
      · have j1 : (i : Int) < (l.length : Int) := by omega
        have j0 : (0 : Int) ≤ (i : Int) := by omega
        have a0 := KX.cell 0 rfl
        have HP1 := hide (HP.out wr BXX.out)
        have KXH := hide KX
        clear KX
        go_wp2_with fail
        refine HP1.out.mono ?_
        rintro e w3 ⟨q3, z3, rfl, k3, b3⟩
        have IV := hide k3.ints
        have O3 := hide (OX.out.below b3)
        have B3 := hide (chain BX.out b3)
        have K3 := hide (KXH.out.below b3)
        clear HP1 k3 b3 OX BX BXX KXH a0
        go_wp2_with fail
        go_loopw [9, 30] (fun bv jv wq => ∃ j : Nat, j ≤ P.length ∧ jv = .int .i64 j ∧ bv = .bool (decide ((i : Int) ∈ P.take j)) ∧ wq = w3) (fun _ jv _ => P.length - (intOf jv).toNat)
        case atStart => exact ⟨0, Nat.zero_le _, rfl, by rw [List.take_zero]; rfl, rfl⟩
        case round =>
          rename World => wq
          obtain ⟨j, hj, rfl, rfl, ew⟩ := hrel
          obtain rfl : w3 = wq := ew.symm
          by_cases h : j < P.length
          · have m1 : (j : Int) < (P.length : Int) := by omega
            have m0 : (0 : Int) ≤ (j : Int) := by omega
            obtain ⟨pp, cc, evc, hcr⟩ := IV.out
            cases evc
            obtain ⟨b4, o4, rfl, hcq⟩ := hcr.resolve_left (fun q => by rw [q] at h; simp at h)
            have x0 := hcq j h
            have TK : Hid (decide ((i : Int) ∈ P.take (j + 1)) = (decide ((i : Int) ∈ P.take j) || (P[j] == (i : Int)))) := by
              show _ = _
              rw [List.take_succ_eq_append_getElem h, Bool.eq_iff_iff, Bool.or_eq_true, decide_eq_true_eq, decide_eq_true_eq, List.mem_append, List.mem_singleton, beq_iff_eq]
              exact ⟨fun t => t.imp id Eq.symm, fun t => t.imp id Eq.symm⟩
            clear hcr hcq
            generalize P[j] = y at *
            generalize decide ((i : Int) ∈ P.take j) = bb at *
            cases bb
            · go_wp2_with fail
              go_roundw
              case rel => exact ⟨j + 1, by omega, by go_num, by rw [TK.out, Bool.false_or], trivial⟩
              case measure => simp [intOf]; omega
            · go_wp2_with fail
              go_roundw
              case rel => exact ⟨j + 1, by omega, by go_num, by rw [TK.out, Bool.true_or], trivial⟩
              case measure => simp [intOf]; omega
          · obtain rfl : j = P.length := by omega
            rw [List.take_length]
            have MS := MS0
            clear MS0
            have a1 := K3.out.cell 1 rfl
            by_cases h5 : i < 50
            · have d5 : (i : Int) < 50 := by omega
              by_cases hp : (i : Int) ∈ P
              · rw [decide_eq_true hp]
                rw [if_neg (fun t => t.1 hp), List.append_nil] at MS
                clear hp
                go_wp2_with fail
                go_roundw
                case rel => exact ⟨i + 1, qx, cx, A, by omega, by go_num, by rw [MS.out], by rw [MS.out]; exact O3, B3⟩
                case measure => simp [intOf]; omega
              · rw [decide_eq_false hp]
                rw [if_pos ⟨hp, h5⟩] at MS
                have AL : Hid (Below w3.heap.size w3 (w3.alloc (.cells #[.int .i64 (i : Int), .string k, .bool false, .slice none 0 0] 41))) := (Below.refl _ _).alloc (Nat.le_refl _) _
                have OZ := hide (O3.out.below AL.out).row
                have AO := hide O3.out.acts
                have RAW := hide ((Bk.new w3 [.int .i64 (i : Int), .string k, .bool false, .slice none 0 0] 41).raw 1 4 rfl 1)
                have BA := hide (chain B3.out AL.out)
                have WZ : Hid (w1.heap.size ≤ (w3.alloc (.cells #[.int .i64 (i : Int), .string k, .bool false, .slice none 0 0] 41)).heap.size) := BA.out.size
                clear hp AL O3 B3
                go_wp2_with (at_builtin; refine wpList_append_raw rfl _ _ _ rfl w1.heap.size 41 iL _ 4 56 Try.underlying29 hL0 hL1 hL2 hL3 rfl (by omega) _ ow.length (cellsL ow A) rfl OZ.out _ 1 _ rfl RAW.out (by simp [Value.oneCell']) (by unfold maxLen; omega) (by omega) WZ.out ?_; intro q9 k9 w9 own9 gr9 at9)
                have B9 := hide (rowGrown_below BA.out WZ.out gr9 (fun k e => (OZ.out.lt k e).1))
                have O9 := LsO.push (x := ⟨(i : Int), k, false⟩) AO.out own9
                clear own9 gr9 at9 OZ RAW AO BA
                go_roundw
                case rel => exact ⟨i + 1, q9, k9, _, by omega, by go_num, by rw [MS.out, List.length_append]; rfl, by show LsO _ _ _ _ _; rw [MS.out, List.length_append]; exact O9, B9⟩
                case measure => simp [intOf]; omega
            · have d5 : ¬ (i : Int) < 50 := by omega
              rw [if_neg (fun t => h5 t.2), List.append_nil] at MS
              generalize decide ((i : Int) ∈ P) = bb at *
              cases bb
              · go_wp2_with fail
                go_roundw
                case rel => exact ⟨i + 1, qx, cx, A, by omega, by go_num, by rw [MS.out], by rw [MS.out]; exact O3, B3⟩
                case measure => simp [intOf]; omega
              · go_wp2_with fail
                go_roundw
                case rel => exact ⟨i + 1, qx, cx, A, by omega, by go_num, by rw [MS.out], by rw [MS.out]; exact O3, B3⟩
                case measure => simp [intOf]; omega
      · obtain rfl : i = l.length := by omega
        have a0 := KX.cell 0 rfl
        have a1 := KX.cell 1 rfl
        have hk2 : k.size + 1 ≤ 9223372036854775807 := by omega
        have lX : w.heap.size < wr.heap.size := KX.lt
        have AL : Hid (Below wr.heap.size wr (wr.alloc (.cells #[.int .i64 t, .string (k ++ ⟨#[120]⟩), .bool false, .slice none 0 0] 41))) := (Below.refl _ _).alloc (Nat.le_refl _) _
        have OZ := hide (OX.out.below AL.out).row
        have AO := hide OX.out.acts
        have RAW := hide ((Bk.new wr [.int .i64 t, .string (k ++ ⟨#[120]⟩), .bool false, .slice none 0 0] 41).raw 1 4 rfl 1)
        have BA := hide (chain BX.out AL.out)
        have WZ : Hid (w1.heap.size ≤ (wr.alloc (.cells #[.int .i64 t, .string (k ++ ⟨#[120]⟩), .bool false, .slice none 0 0] 41)).heap.size) := BA.out.size
        rw [how.out] at H2
        clear AL OX BX BXX KX MS0 HP how
        go_upto_region 19 with (at_builtin; refine wpList_append_raw rfl _ _ _ rfl w1.heap.size 41 iL _ 4 56 Try.underlying29 hL0 hL1 hL2 hL3 rfl (by omega) _ ow.length (cellsL ow A) rfl OZ.out _ 1 _ rfl RAW.out (by simp [Value.oneCell']) (by unfold maxLen; omega) (by omega) WZ.out ?_; intro q9 k9 w9 own9 gr9 at9)
        have B9 := hide (rowGrown_below BA.out WZ.out gr9 (fun k e => (OZ.out.lt k e).1))
        have LS9 : Hid (LsV w9 (.slice q9 (ow.length + 1) k9) (ow ++ [⟨t, k ++ ⟨#[120]⟩, false⟩])) := ⟨_, (LsO.push (x := ⟨t, k ++ ⟨#[120]⟩, false⟩) AO.out own9).lsv⟩
        replace K0 := hide (K0.out.below B9.out)
        replace B9 := hide (chain B1.out B9.out)
        clear own9 gr9 at9 OZ RAW AO BA a0 a1 WZ
        have DR : Below w9.heap.size w9 w9.drew := ⟨rfl, rfl, rfl, Nat.le_refl _, fun _ _ => rfl⟩
        have K1 := hide (K0.out.below DR)
        have B2 := hide (chain B9.out DR)
        replace LS9 := hide (LS9.out.below DR)
        clear DR B9
        refine wp_region_held_drew (S := fun X : World => X.cell? ⟨w.heap.size, 0, none⟩ = some (.int .i64 t) ∧ X.cell? ⟨w.heap.size, 1, none⟩ = some (.string k) ∧ X.cell? ⟨w.heap.size, 2, none⟩ = some (.bool b)) (by kernel_rfl) ?_ (fun hHeld => ?_)
        · exact ⟨K0.out.cell 0 rfl, K0.out.cell 1 rfl, K0.out.cell 2 rfl⟩
        clear K0
        refine wpAnyH_take (i := 0) (oi := { dst := some 64, op := Op.move (Operand.tmp 0), type := 22, pos := "law.go:89", after := #[], guard := none }) (v := ?_) rfl (by kernel_rfl) (by kernel_rfl) (by kernel_rfl) (fun _ _ _ h => h) (Or.inl ⟨by rfl, ?_⟩) (by assumption) ?_
        rotate_left
        · (intro w hSw; (try dsimp only at hSw); first | (go_simp; done) | (go_simp; with_reducible rfl))
        simp only [Act.put, List.setIfInBounds_toArray, List.set_cons_zero, List.set_cons_succ]
        refine wpAnyH_take (i := 2) (oi := { dst := some 66, op := Op.move (Operand.tmp 7), type := 29, pos := "law.go:89", after := #[], guard := none }) (v := ?_) rfl (by kernel_rfl) (by kernel_rfl) (by kernel_rfl) (fun _ _ _ h => h) (Or.inl ⟨by rfl, ?_⟩) (by assumption) ?_
        rotate_left
        · (intro w hSw; (try dsimp only at hSw); first | (go_simp; done) | (go_simp; with_reducible rfl))
        simp only [Act.put, List.setIfInBounds_toArray, List.set_cons_zero, List.set_cons_succ]
        refine wpAnyH_take (i := 3) (oi := { dst := some 67, op := Op.fieldAddr 31 (Operand.tmp 5) 0, type := 0, pos := "law.go:89", after := #[], guard := none }) (v := ?_) rfl (by kernel_rfl) (by kernel_rfl) (by kernel_rfl) (fun _ _ _ h => h) (Or.inl ⟨by rfl, ?_⟩) (by assumption) ?_
        rotate_left
        · (intro w hSw; (try dsimp only at hSw); first | (go_simp; done) | (go_simp; with_reducible rfl))
        simp only [Act.put, List.setIfInBounds_toArray, List.set_cons_zero, List.set_cons_succ]
        refine wpAnyH_take (i := 4) (oi := { dst := some 68, op := Op.load 3 (Operand.tmp 67), type := 3, pos := "law.go:89", after := #[{ on := 3, ground := Ground.data }], guard := none }) (v := ?_) rfl (by kernel_rfl) (by kernel_rfl) (by kernel_rfl) (fun _ _ _ h => h) (Or.inl ⟨by rfl, ?_⟩) (by assumption) ?_
        rotate_left
        · (intro w hSw; (try dsimp only at hSw); first | (go_simp; done) | (go_simp; with_reducible rfl))
        simp only [Act.put, List.setIfInBounds_toArray, List.set_cons_zero, List.set_cons_succ]
        refine wpAnyH_take (i := 5) (oi := { dst := some 69, op := Op.fieldAddr 31 (Operand.tmp 5) 1, type := 0, pos := "law.go:89", after := #[], guard := none }) (v := ?_) rfl (by kernel_rfl) (by kernel_rfl) (by kernel_rfl) (fun _ _ _ h => h) (Or.inl ⟨by rfl, ?_⟩) (by assumption) ?_
        rotate_left
        · (intro w hSw; (try dsimp only at hSw); first | (go_simp; done) | (go_simp; with_reducible rfl))
        simp only [Act.put, List.setIfInBounds_toArray, List.set_cons_zero, List.set_cons_succ]
        refine wpAnyH_take (i := 6) (oi := { dst := some 70, op := Op.load 9 (Operand.tmp 69), type := 9, pos := "law.go:89", after := #[{ on := 5, ground := Ground.data }], guard := none }) (v := ?_) rfl (by kernel_rfl) (by kernel_rfl) (by kernel_rfl) (fun _ _ _ h => h) (Or.inl ⟨by rfl, ?_⟩) (by assumption) ?_
        rotate_left
        · (intro w hSw; (try dsimp only at hSw); first | (go_simp; done) | (go_simp; with_reducible rfl))
        simp only [Act.put, List.setIfInBounds_toArray, List.set_cons_zero, List.set_cons_succ]
        refine wpAnyH_take (i := 7) (oi := { dst := some 71, op := Op.fieldAddr 31 (Operand.tmp 5) 2, type := 0, pos := "law.go:89", after := #[], guard := none }) (v := ?_) rfl (by kernel_rfl) (by kernel_rfl) (by kernel_rfl) (fun _ _ _ h => h) (Or.inl ⟨by rfl, ?_⟩) (by assumption) ?_
        rotate_left
        · (intro w hSw; (try dsimp only at hSw); first | (go_simp; done) | (go_simp; with_reducible rfl))
        simp only [Act.put, List.setIfInBounds_toArray, List.set_cons_zero, List.set_cons_succ]
        refine wpAnyH_take (i := 8) (oi := { dst := some 72, op := Op.load 4 (Operand.tmp 71), type := 4, pos := "law.go:89", after := #[{ on := 7, ground := Ground.data }], guard := none }) (v := ?_) rfl (by kernel_rfl) (by kernel_rfl) (by kernel_rfl) (fun _ _ _ h => h) (Or.inl ⟨by rfl, ?_⟩) (by assumption) ?_
        rotate_left
        · (intro w hSw; (try dsimp only at hSw); first | (go_simp; done) | (go_simp; with_reducible rfl))
        simp only [Act.put, List.setIfInBounds_toArray, List.set_cons_zero, List.set_cons_succ]
        refine wpAnyH_take (i := 10) (oi := { dst := some 74, op := Op.move (Operand.tmp 0), type := 22, pos := "law.go:89", after := #[], guard := none }) (v := ?_) rfl (by kernel_rfl) (by kernel_rfl) (by kernel_rfl) (fun _ _ _ h => h) (Or.inl ⟨by rfl, ?_⟩) (by assumption) ?_
        rotate_left
        · (intro w hSw; (try dsimp only at hSw); first | (go_simp; done) | (go_simp; with_reducible rfl))
        simp only [Act.put, List.setIfInBounds_toArray, List.set_cons_zero, List.set_cons_succ]
        refine wpAnyH_take (i := 12) (oi := { dst := some 76, op := Op.move (Operand.tmp 1), type := 29, pos := "law.go:89", after := #[], guard := none }) (v := ?_) rfl (by kernel_rfl) (by kernel_rfl) (by kernel_rfl) (fun _ _ _ h => h) (Or.inl ⟨by rfl, ?_⟩) (by assumption) ?_
        rotate_left
        · (intro w hSw; (try dsimp only at hSw); first | (go_simp; done) | (go_simp; with_reducible rfl))
        simp only [Act.put, List.setIfInBounds_toArray, List.set_cons_zero, List.set_cons_succ]
        refine wpAnyH_take (i := 13) (oi := { dst := some 77, op := Op.fieldAddr 31 (Operand.tmp 5) 0, type := 0, pos := "law.go:89", after := #[], guard := none }) (v := ?_) rfl (by kernel_rfl) (by kernel_rfl) (by kernel_rfl) (fun _ _ _ h => h) (Or.inl ⟨by rfl, ?_⟩) (by assumption) ?_
        rotate_left
        · (intro w hSw; (try dsimp only at hSw); first | (go_simp; done) | (go_simp; with_reducible rfl))
        simp only [Act.put, List.setIfInBounds_toArray, List.set_cons_zero, List.set_cons_succ]
        refine wpAnyH_take (i := 14) (oi := { dst := some 78, op := Op.load 3 (Operand.tmp 77), type := 3, pos := "law.go:89", after := #[{ on := 13, ground := Ground.data }], guard := none }) (v := ?_) rfl (by kernel_rfl) (by kernel_rfl) (by kernel_rfl) (fun _ _ _ h => h) (Or.inl ⟨by rfl, ?_⟩) (by assumption) ?_
        rotate_left
        · (intro w hSw; (try dsimp only at hSw); first | (go_simp; done) | (go_simp; with_reducible rfl))
        simp only [Act.put, List.setIfInBounds_toArray, List.set_cons_zero, List.set_cons_succ]
        refine wpAnyH_take (i := 15) (oi := { dst := some 79, op := Op.fieldAddr 31 (Operand.tmp 5) 1, type := 0, pos := "law.go:89", after := #[], guard := none }) (v := ?_) rfl (by kernel_rfl) (by kernel_rfl) (by kernel_rfl) (fun _ _ _ h => h) (Or.inl ⟨by rfl, ?_⟩) (by assumption) ?_
        rotate_left
        · (intro w hSw; (try dsimp only at hSw); first | (go_simp; done) | (go_simp; with_reducible rfl))
        simp only [Act.put, List.setIfInBounds_toArray, List.set_cons_zero, List.set_cons_succ]
        refine wpAnyH_take (i := 16) (oi := { dst := some 80, op := Op.load 9 (Operand.tmp 79), type := 9, pos := "law.go:89", after := #[{ on := 15, ground := Ground.data }], guard := none }) (v := ?_) rfl (by kernel_rfl) (by kernel_rfl) (by kernel_rfl) (fun _ _ _ h => h) (Or.inl ⟨by rfl, ?_⟩) (by assumption) ?_
        rotate_left
        · (intro w hSw; (try dsimp only at hSw); first | (go_simp; done) | (go_simp; with_reducible rfl))
        simp only [Act.put, List.setIfInBounds_toArray, List.set_cons_zero, List.set_cons_succ]
        refine wpAnyH_take (i := 17) (oi := { dst := some 81, op := Op.fieldAddr 31 (Operand.tmp 5) 2, type := 0, pos := "law.go:89", after := #[], guard := none }) (v := ?_) rfl (by kernel_rfl) (by kernel_rfl) (by kernel_rfl) (fun _ _ _ h => h) (Or.inl ⟨by rfl, ?_⟩) (by assumption) ?_
        rotate_left
        · (intro w hSw; (try dsimp only at hSw); first | (go_simp; done) | (go_simp; with_reducible rfl))
        simp only [Act.put, List.setIfInBounds_toArray, List.set_cons_zero, List.set_cons_succ]
        refine wpAnyH_take (i := 18) (oi := { dst := some 82, op := Op.load 4 (Operand.tmp 81), type := 4, pos := "law.go:89", after := #[{ on := 17, ground := Ground.data }], guard := none }) (v := ?_) rfl (by kernel_rfl) (by kernel_rfl) (by kernel_rfl) (fun _ _ _ h => h) (Or.inl ⟨by rfl, ?_⟩) (by assumption) ?_
        rotate_left
        · (intro w hSw; (try dsimp only at hSw); first | (go_simp; done) | (go_simp; with_reducible rfl))
        simp only [Act.put, List.setIfInBounds_toArray, List.set_cons_zero, List.set_cons_succ]
        refine wpAnyH_ready (rs := [1]) (by kernel_rfl) (by simp) ?_
        refine AllReadyH.cons (i := 1) (o := { dst := some 65, op := Op.call { callee := Callee.value (Operand.func 11), args := #[Operand.tmp 64], argTypes := #[22] }, type := 22, pos := "law.go:89", after := #[{ on := 0, ground := Ground.data }], guard := none }) rfl (fun K hK => ?_) AllReadyH.nil
        go_simp
        refine (HC.out _ B2.out).mono ?_
        rintro e wc1 ⟨v1, L1, rfl, o1, e1, b1⟩
        have N1 : Hid (NodesV wc1 v1 l) := by show NodesV _ _ _; rw [← e1]; exact o1.nodes
        obtain ⟨p1, k1, rfl⟩ : ∃ p k, v1 = .slice p l.length k := by obtain ⟨p, k, e, _⟩ := N1.out; exact ⟨p, k, e⟩
        have BC1 := hide (chain B2.out b1)
        replace K1 := hide (K1.out.below b1)
        replace LS9 := hide (LS9.out.below b1)
        clear o1 e1 b1 B2
        go_wp2_with fail
        refine hK.out _ _ ?_ (fun hHeld => ?_)
        · exact ⟨K1.out.cell 0 rfl, K1.out.cell 1 rfl, K1.out.cell 2 rfl⟩
        clear hK K
        refine wpAnyH_ready (rs := [9]) (by kernel_rfl) (by simp) ?_
        refine AllReadyH.cons (i := 9) (o := { dst := some 73, op := Op.call { callee := Callee.value (Operand.func 14), args := #[Operand.tmp 65, Operand.tmp 66, Operand.tmp 68, Operand.tmp 70, Operand.tmp 72], argTypes := #[22, 29, 3, 9, 4] }, type := 33, pos := "law.go:89", after := #[{ on := 1, ground := Ground.data }, { on := 2, ground := Ground.data }, { on := 4, ground := Ground.data }, { on := 6, ground := Ground.data }, { on := 8, ground := Ground.data }, { on := 1, ground := Ground.chain }], guard := none }) rfl (fun K hK => ?_) AllReadyH.nil
        go_simp
        refine (H2.out _ _ _ BC1.out N1.out LS9.out).mono ?_
        rintro e wa ⟨va, rfl, ca, ba⟩
        have BA := hide (chain BC1.out ba)
        replace K1 := hide (K1.out.below ba)
        have CA := hide ca
        obtain ⟨pa, ka, rfl, _⟩ := ca
        clear ba BC1 N1 LS9 H2
        go_wp2_with fail
        refine hK.out _ _ ?_ (fun hHeld => ?_)
        · exact ⟨K1.out.cell 0 rfl, K1.out.cell 1 rfl, K1.out.cell 2 rfl⟩
        clear hK K
        refine wpAnyH_ready (rs := [11]) (by kernel_rfl) (by simp) ?_
        refine AllReadyH.cons (i := 11) (o := { dst := some 75, op := Op.call { callee := Callee.value (Operand.func 11), args := #[Operand.tmp 74], argTypes := #[22] }, type := 22, pos := "law.go:89", after := #[{ on := 10, ground := Ground.data }, { on := 9, ground := Ground.chain }], guard := none }) rfl (fun K hK => ?_) AllReadyH.nil
        go_simp
        refine (HC.out _ BA.out).mono ?_
        rintro e wc2 ⟨v2, L2, rfl, o2, e2, b2⟩
        have N2 : Hid (NodesV wc2 v2 l) := by show NodesV _ _ _; rw [← e2]; exact o2.nodes
        obtain ⟨p2, k2, rfl⟩ : ∃ p k, v2 = .slice p l.length k := by obtain ⟨p, k, e, _⟩ := N2.out; exact ⟨p, k, e⟩
        have BC2 := hide (chain BA.out b2)
        replace K1 := hide (K1.out.below b2)
        replace CA := hide (CA.out.below b2)
        clear o2 e2 b2 BA
        go_wp2_with fail
        refine hK.out _ _ ?_ (fun hHeld => ?_)
        · exact ⟨K1.out.cell 0 rfl, K1.out.cell 1 rfl, K1.out.cell 2 rfl⟩
        clear hK K
        refine wpAnyH_ready (rs := [19]) (by kernel_rfl) (by simp) ?_
        refine AllReadyH.cons (i := 19) (o := { dst := some 83, op := Op.call { callee := Callee.value (Operand.func 14), args := #[Operand.tmp 75, Operand.tmp 76, Operand.tmp 78, Operand.tmp 80, Operand.tmp 82], argTypes := #[22, 29, 3, 9, 4] }, type := 33, pos := "law.go:89", after := #[{ on := 11, ground := Ground.data }, { on := 12, ground := Ground.data }, { on := 14, ground := Ground.data }, { on := 16, ground := Ground.data }, { on := 18, ground := Ground.data }, { on := 11, ground := Ground.chain }], guard := none }) rfl (fun K hK => ?_) AllReadyH.nil
        go_simp
        refine (H1.out _ _ BC2.out N2.out).mono ?_
        rintro e wb ⟨vb, rfl, cb, bb⟩
        have BB := hide (chain BC2.out bb)
        replace K1 := hide (K1.out.below bb)
        replace CA := hide (CA.out.below bb)
        have CB := hide cb
        obtain ⟨pb, kb, rfl, _⟩ := cb
        clear bb BC2 N2 H1
        go_wp2_with fail
        refine hK.out _ _ ?_ (fun hHeld => ?_)
        · exact ⟨K1.out.cell 0 rfl, K1.out.cell 1 rfl, K1.out.cell 2 rfl⟩
        clear hK K
        refine wpAnyH_ready (rs := [20]) (by kernel_rfl) (by simp) ?_
        refine AllReadyH.cons (i := 20) (o := { dst := some 84, op := Op.call { callee := Callee.value (Operand.func 13), args := #[Operand.tmp 73, Operand.tmp 83], argTypes := #[33, 33] }, type := 4, pos := "law.go:89", after := #[{ on := 9, ground := Ground.data }, { on := 19, ground := Ground.data }, { on := 19, ground := Ground.chain }], guard := none }) rfl (fun K hK => ?_) AllReadyH.nil
        go_simp
        refine (H5.out _ _ _ CA.out CB.out).mono ?_
        rintro e wd ⟨rfl, bd⟩
        have BD := hide (chain BB.out bd)
        replace K1 := hide (K1.out.below bd)
        clear bd BB CA CB H5
        go_wp2_with fail
        refine hK.out _ _ ?_ (fun hHeld => ?_)
        · exact ⟨K1.out.cell 0 rfl, K1.out.cell 1 rfl, K1.out.cell 2 rfl⟩
        clear hK K
        refine wpAnyH_take (i := 21) (oi := { dst := some 6, op := Op.assign (Operand.tmp 84), type := 4, pos := "law.go:89", after := #[{ on := 20, ground := Ground.data }, { on := 20, ground := Ground.chain }, { on := 0, ground := Ground.phase }, { on := 1, ground := Ground.phase }, { on := 2, ground := Ground.phase }, { on := 3, ground := Ground.phase }, { on := 4, ground := Ground.phase }, { on := 5, ground := Ground.phase }, { on := 6, ground := Ground.phase }, { on := 7, ground := Ground.phase }, { on := 8, ground := Ground.phase }, { on := 9, ground := Ground.phase }, { on := 10, ground := Ground.phase }, { on := 11, ground := Ground.phase }, { on := 12, ground := Ground.phase }, { on := 13, ground := Ground.phase }, { on := 14, ground := Ground.phase }, { on := 15, ground := Ground.phase }, { on := 16, ground := Ground.phase }, { on := 17, ground := Ground.phase }, { on := 18, ground := Ground.phase }, { on := 19, ground := Ground.phase }, { on := 20, ground := Ground.phase }], guard := none }) (v := ?_) rfl (by kernel_rfl) (by kernel_rfl) (by kernel_rfl) (fun _ _ _ h => h) (Or.inl ⟨by rfl, ?_⟩) (by assumption) ?_
        rotate_left
        · (intro w hSw; (try dsimp only at hSw); first | (go_simp; done) | (go_simp; with_reducible rfl))
        simp only [Act.put, List.setIfInBounds_toArray, List.set_cons_zero, List.set_cons_succ]
        refine wpAnyH_done (by kernel_rfl) ?_ _
        go_wp2_with fail
        go_ret
        exact ⟨rfl, BD.out⟩
  · have i2 : (100 : Int) < (all.length : Int) := by omega
    have i3 : (all.length : Int) ≤ 2513169434917 := by omega
    obtain ⟨p, c, rfl⟩ : ∃ p k, v = .slice p l.length k := by obtain ⟨p, k, e, _⟩ := hv; exact ⟨p, k, e⟩
    obtain ⟨A, hA, pl, cl, rfl, _⟩ := hl
    clear hv hz hT hA HC
    go_enter Try.func7, Try.ntmps7
    go_wp2_with fail
    refine HW.out.mono ?_
    rintro e w1 ⟨rfl, b1⟩
    go_wp2_with fail
    go_ret
    exact ⟨rfl, chain B0.out b1⟩

end Go.Proofs.Ytmobcijigiacoaa
