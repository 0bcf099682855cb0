/- Facts of no program. Blanks at the ends of texts, as lists of bytes. Runs of blanks within a text, as lists of bytes. The document's Has, Is, Owner, Off of layer 15. The document's List of layer 15. Escapes of texts, as lists of bytes. The document's find, begins, quoted, Part of layer 20. The program's Strip and the document's answer by the same function of lists of bytes. The words of a text, as a loop over its bytes finds them. -/
import Derived.Test.YtnojgejcmaajmaaGreatDoorJsb12
import Derived.Test.YtnojgejcmaajmaaGreatDoorJsb13
import Derived.Test.YtnojgejcmaajmaaGreatDoorJsb21

namespace Go.Proofs.YtnojgejcmaajmaaGreatDoor
open Go.RowKit
/-- The types of texts and of slices of texts. -/
structure TextTypes (P : Program) (t e : TypeId) : Prop where
  sl : P.underlying t = some (.slice e)
  el : P.underlying e = some .string
  info : (P.info? e).map (fun i => (i.zero, i.size, i.bytes)) = some (some (.string ⟨#[]⟩), 1, 16)
/-- 'out = append(out, s)', s a text: it was laid in a block of its own first. -/
theorem wpList_append_item {P : Program} {t e : TypeId} (tt : TextTypes P t e) {ops : Array Oper} {rest : List Oper} {o : Oper} {a : Act} {Q : Exit → Act → World → Prop} (w : World) (y : ByteArray)
    (hgd : o.guard = none) (s x : Operand) (ho : o.op = .call { callee := .builtin .append, args := #[s, x], argTypes := #[t, t] })
    (base : Nat) (v : Value) (l : List (List UInt8)) (c : List UInt8) (hy : y = txt c) (hs : a.eval s = v) (hown : OwnsT e base w v l)
    (hx : a.eval x = .slice (some ⟨w.heap.size, 0, none⟩) 1 1) (hlen : l.length ≤ 4398046511104) (hbase : base ≤ w.heap.size)
    (h : ∀ v' w', OwnsT e base w' v' (l ++ [c]) → Below base w w' → wpList P ops Q rest (a.put o.dst v') w') : wpList P ops Q (o :: rest) a (w.alloc (.cells #[.string y] e)) := by
  subst hy
  obtain ⟨i, hi, hz0, hz1, hz2⟩ := info_parts tt.info
  have hown' : (w.alloc (.cells #[.string (txt c)] e)).ownsRow base e 1 v l.length (l.map cellT) := World.ownsRow.alloc hown _
  refine wpList_append_own (P := P) _ hgd s x t ho base e i (.string ⟨#[]⟩) 1 16 tt.sl hi hz0 hz1 hz2 rfl (by decide) v l.length (l.map cellT) hs hown' ⟨w.heap.size, 0, none⟩ 1 1 [cellT c] hx rfl (cell_one_new _ _ _) (fun u hu => by simp at hu; subst hu; rfl) (by unfold maxLen; omega) (by omega) (by simp; omega) ?_
  intro v' w' h1 h2 _
  refine h v' w' ?_ (((Below.refl base w).alloc hbase _).trans (grown_below hown' h2 (by simp; omega)))
  simpa [OwnsT] using h1
end Go.Proofs.YtnojgejcmaajmaaGreatDoor

namespace Go.Proofs.YtnojgejcmaajmaaGreatDoor
open Go.RowKit
theorem isBl_iff (c : UInt8) : isBl c = true ↔ (c.toNat : Int) = 9 ∨ (c.toNat : Int) = 10 ∨ (c.toNat : Int) = 12 ∨ (c.toNat : Int) = 13 ∨ (c.toNat : Int) = 32 := by
  have e : ∀ d : UInt8, c = d ↔ (c.toNat : Int) = (d.toNat : Int) := fun d => by rw [← UInt8.toNat_inj]; omega
  have : isBl c = true ↔ c = 9 ∨ c = 10 ∨ c = 12 ∨ c = 13 ∨ c = 32 := by
    unfold isBl blanks; simp
  rw [this, e 9, e 10, e 12, e 13, e 32]; rfl
end Go.Proofs.YtnojgejcmaajmaaGreatDoor

namespace Go.Proofs.YtnojgejcmaajmaaGreatDoor
open Go.RowKit
theorem colF_le : ∀ (l : List UInt8) (st : Nat), (colF st l).length ≤ 2 * l.length
  | [], _ => by simp [colF]
  | c :: r, st => by
    cases hc : isBl c with
    | true => rw [colF_bl hc]; have := colF_le r (if st = 0 then 0 else 2); simp only [List.length_cons]; omega
    | false =>
      rw [colF_no hc]
      have := colF_le r 1
      have h2 : (if st = 2 then [32, c] else [c]).length ≤ 2 := by split <;> simp
      simp only [List.length_append, List.length_cons]; omega
/-- The words: runs of bytes that are no blanks; 'cur': the one that is being read. -/
def wordsG : List UInt8 → List UInt8 → List (List UInt8)
  | cur, [] => if cur = [] then [] else [cur]
  | cur, c :: r => if isBl c then (if cur = [] then wordsG [] r else cur :: wordsG [] r) else wordsG (cur ++ [c]) r
def sepJ (ws : List (List UInt8)) : List UInt8 := ws.flatMap fun x => 32 :: x
def joinW : List (List UInt8) → List UInt8
  | [] => []
  | x :: ws => x ++ sepJ ws
theorem words_col : ∀ (l : List UInt8), (∀ cur, cur ≠ [] → ∃ h t, wordsG cur l = (cur ++ h) :: t ∧ colF 1 l = h ++ sepJ t) ∧ (joinW (wordsG [] l) = colF 0 l ∧ sepJ (wordsG [] l) = colF 2 l)
  | [] => ⟨fun cur hc => ⟨[], [], by simp [wordsG, hc], rfl⟩, rfl, rfl⟩
  | c :: r => by
    have ih := words_col r
    cases hc : isBl c with
    | true =>
      refine ⟨fun cur hcur => ⟨[], wordsG [] r, ?_, ?_⟩, ?_, ?_⟩
      · show (if isBl c then _ else _) = _; rw [if_pos hc, if_neg hcur, List.append_nil]
      · rw [colF_bl hc, if_neg (by decide), List.nil_append, ih.2.2]
      · rw [colF_bl hc, if_pos rfl, ← ih.2.1]; show joinW (if isBl c then _ else _) = _; rw [if_pos hc, if_pos rfl]
      · rw [colF_bl hc, if_neg (by decide), ← ih.2.2]; show sepJ (if isBl c then _ else _) = _; rw [if_pos hc, if_pos rfl]
    | false =>
      have hw : ∀ cur, wordsG cur (c :: r) = wordsG (cur ++ [c]) r := fun cur => by show (if isBl c then _ else _) = _; rw [if_neg (by rw [hc]; decide)]
      refine ⟨fun cur hcur => ?_, ?_⟩
      · obtain ⟨h, t, e1, e2⟩ := ih.1 (cur ++ [c]) (by simp)
        refine ⟨c :: h, t, by rw [hw, e1]; simp, ?_⟩
        rw [colF_no hc, if_neg (by decide), e2]; rfl
      · obtain ⟨h, t, e1, e2⟩ := ih.1 ([] ++ [c]) (by simp)
        rw [hw, e1, colF_no hc, colF_no hc, if_neg (by decide), if_pos rfl, e2]
        exact ⟨rfl, by simp [sepJ]⟩
theorem join_words (l : List UInt8) : joinW (wordsG [] l) = collapseL l := (words_col l).2.1
theorem sepJ_snoc (ws : List (List UInt8)) (x : List UInt8) : sepJ (ws ++ [x]) = sepJ ws ++ 32 :: x := by simp [sepJ]
theorem joinW_snoc (ws : List (List UInt8)) (x : List UInt8) (h : ws ≠ []) : joinW (ws ++ [x]) = joinW ws ++ [32] ++ x := by
  cases ws with
  | nil => exact absurd rfl h
  | cons a t => show a ++ sepJ (t ++ [x]) = a ++ sepJ t ++ [32] ++ x; rw [sepJ_snoc]; simp
end Go.Proofs.YtnojgejcmaajmaaGreatDoor

namespace Go.Proofs.YtnojgejcmaajmaaGreatDoor
open Go.RowKit
set_option maxRecDepth 100000
theorem grp_neg {l : List Nd} {z : Int} (h : z < 0) : grpI l z = false := by unfold grpI; rw [decide_eq_false (by omega)]; rfl
theorem grp_at {l : List Nd} {p : Nat} (h : p < l.length) : grpI l (p : Int) = decide (l[p].name = oGrp) := by unfold grpI; rw [decide_eq_true (by omega), nmI_at h, Bool.true_and]
theorem own_none {l : List Nd} {m : Int} (h : upI l m < 0 ∨ ¬ nmI l (upI l m) = oSel) : ownP l m = -1 := if_pos h
theorem own_some {l : List Nd} {m : Int} (h0 : ¬ upI l m < 0) (h1 : nmI l (upI l m) = oSel) : ownP l m = upI l m := if_neg (fun t => t.elim h0 (fun q => q h1))
theorem up_plain {l : List Nd} {m : Int} (h : grpI l (parI l m) = false) : upI l m = parI l m := if_neg (by rw [h]; decide)
theorem up_grp {l : List Nd} {m : Int} (h : grpI l (parI l m) = true) : upI l m = parI l (parI l m) := if_pos h
theorem lit_nn {a : ByteArray} {l : List UInt8} (h : ¬ a = ⟨l.toArray⟩) : (a.toList != l) = true := by rw [bne, lit_no h]; rfl
theorem lit_ny {a : ByteArray} {l : List UInt8} (h : a = ⟨l.toArray⟩) : (a.toList != l) = false := by rw [bne, lit_yes h]; rfl
set_option maxHeartbeats 4000000 in
theorem refOwner_any (v : Value) (l : List Nd) (m : Nat) (w : World) (hv : NodesV w v l) (hR : Right l) (h0 : m < l.length) :
    Calls Tryz.prog 204 #[v, .int .i64 (m : Int)] w fun e w' => e = .returned (.int .i64 (ownP l (m : Int))) ∧ w' = w := by
  have hlen := hR.len.2
  have i0 : (0 : Int) ≤ (m : Int) := by omega
  have i1 : (m : Int) < (l.length : Int) := by omega
  obtain ⟨p, c, rfl, hv⟩ := hv
  rcases hv with hv | ⟨b, o, rfl, hv⟩
  · rw [hv] at h0; simp at h0
  obtain ⟨va, vk, N0⟩ := hv m h0
  have a3 := N0.parent
  have pe := parI_at (l := l) h0
  have pr := hR.par m h0
  rw [nd_at h0] at pr
  have HU := hide (up_plain (l := l) (m := (m : Int)))
  have HG := hide (up_grp (l := l) (m := (m : Int)))
  have HN := hide (own_none (l := l) (m := (m : Int)))
  have HS := hide (own_some (l := l) (m := (m : Int)))
  rw [pe] at HU HG
  clear N0 pe
  generalize l[m].parent = z0 at *
  obtain ⟨pr1, pr2⟩ := pr
  by_cases g0 : z0 < 0
  · have E : Hid (ownP l (m : Int) = -1) := HN.out (.inl (by rw [HU.out (grp_neg g0)]; exact g0))
    clear HU HG HN HS hv hR
    have d0 : decide (0 ≤ z0) = false := decide_eq_false (by omega)
    go_enter Tryz.func204, Tryz.ntmps204
    go_wp2_with fail
    go_ret
    exact ⟨ret_int E.out.symm, rfl⟩
  · obtain ⟨p1, rfl, hp1⟩ := nat_of g0 pr2
    obtain ⟨va1, vk1, N1⟩ := hv p1 hp1
    have c0 := N1.name
    have c3 := N1.parent
    have j0 : (0 : Int) ≤ (p1 : Int) := by omega
    have j1 : (p1 : Int) < (l.length : Int) := by omega
    have ge := grp_at (l := l) hp1
    have ne := nmI_at (l := l) hp1
    clear N1
    by_cases g1 : l[p1].name = oGrp
    · rw [decide_eq_true g1] at ge
      have up := HG.out ge
      have pe1 := parI_at (l := l) hp1
      rw [pe1] at up
      have pr' := hR.par p1 hp1
      rw [nd_at hp1] at pr'
      rw [up] at HN HS
      have t1 : (l[p1].name.toList == [111, 112, 116, 103, 114, 111, 117, 112]) = true := lit_yes g1
      clear pe1 up ne ge HU HG g1
      generalize l[p1].parent = z1 at *
      generalize l[p1].name = y1 at *
      obtain ⟨pr3, pr4⟩ := pr'
      by_cases g2 : z1 < 0
      · have E := hide (HN.out (.inl g2))
        clear HN HS hv hR
        go_enter Tryz.func204, Tryz.ntmps204
        go_wp2_with fail
        go_ret
        exact ⟨ret_int E.out.symm, rfl⟩
      · obtain ⟨p2, rfl, hp2⟩ := nat_of g2 pr4
        obtain ⟨va2, vk2, N2⟩ := hv p2 hp2
        have e0 := N2.name
        have k0 : (0 : Int) ≤ (p2 : Int) := by omega
        have k1 : (p2 : Int) < (l.length : Int) := by omega
        have n2 : ¬ (p2 : Int) < 0 := by omega
        rw [nmI_at hp2] at HN HS
        clear N2
        by_cases g3 : l[p2].name = oSel
        · have E := hide (HS.out n2 g3)
          have t2 : (l[p2].name.toList == [115, 101, 108, 101, 99, 116]) = true := lit_yes g3
          have t3 : (l[p2].name.toList != [115, 101, 108, 101, 99, 116]) = false := lit_ny g3
          clear HN HS hv hR g3
          generalize l[p2].name = y2 at *
          go_enter Tryz.func204, Tryz.ntmps204
          go_wp2_with fail
          go_ret
          exact ⟨ret_int E.out.symm, rfl⟩
        · have E := hide (HN.out (.inr g3))
          have t2 : (l[p2].name.toList == [115, 101, 108, 101, 99, 116]) = false := lit_no g3
          have t3 : (l[p2].name.toList != [115, 101, 108, 101, 99, 116]) = true := lit_nn g3
          clear HN HS hv hR g3
          generalize l[p2].name = y2 at *
          go_enter Tryz.func204, Tryz.ntmps204
          go_wp2_with fail
          go_ret
          exact ⟨ret_int E.out.symm, rfl⟩
    · rw [decide_eq_false g1] at ge
      have up := HU.out ge
      rw [up, ne] at HN
      rw [up, ne] at HS
      have t1 : (l[p1].name.toList == [111, 112, 116, 103, 114, 111, 117, 112]) = false := lit_no g1
      have n1 : ¬ (p1 : Int) < 0 := by omega
      clear up ne ge HU HG g1
      by_cases g3 : l[p1].name = oSel
      · have E := hide (HS.out n1 g3)
        have t2 : (l[p1].name.toList == [115, 101, 108, 101, 99, 116]) = true := lit_yes g3
        have t3 : (l[p1].name.toList != [115, 101, 108, 101, 99, 116]) = false := lit_ny g3
        clear HN HS hv hR g3
        generalize l[p1].name = y1 at *
        go_enter Tryz.func204, Tryz.ntmps204
        go_wp2_with fail
        go_ret
        exact ⟨ret_int E.out.symm, rfl⟩
      · have E := hide (HN.out (.inr g3))
        have t2 : (l[p1].name.toList == [115, 101, 108, 101, 99, 116]) = false := lit_no g3
        have t3 : (l[p1].name.toList != [115, 101, 108, 101, 99, 116]) = true := lit_nn g3
        clear HN HS hv hR g3
        generalize l[p1].name = y1 at *
        go_enter Tryz.func204, Tryz.ntmps204
        go_wp2_with fail
        go_ret
        exact ⟨ret_int E.out.symm, rfl⟩
end Go.Proofs.YtnojgejcmaajmaaGreatDoor

namespace Go.Proofs.YtnojgejcmaajmaaGreatDoor
open Go.RowKit
set_option maxRecDepth 100000
set_option maxHeartbeats 8000000 in
theorem refOList_any (v : Value) (l : List Nd) (id : Int) (w : World) (hv : NodesV w v l) (hz : DocSz l) :
    Calls Tryz.prog 153 #[v, .int .i64 id] w fun e w' => ∃ v', e = .returned v' ∧ KidsO w.heap.size w' v' (listP l id) ∧ Below w.heap.size w w' := by
  have HI := hide (refIs_any v l id 23 w hv hz)
  cases h : isK l id 23 with
  | false =>
    have E : Hid (listP l id = []) := by show _ = _; unfold listP; rw [if_neg (by rw [h]; decide)]
    rw [h] at HI
    obtain ⟨p, c, rfl, _⟩ := hv
    clear h hz
    go_enter Tryz.func153, Tryz.ntmps153
    go_wp2_with fail
    refine HI.out.mono ?_
    rintro e w1 ⟨rfl, b1⟩
    go_wp2_with fail
    go_ret
    exact ⟨_, rfl, by rw [E.out]; exact World.ownsRow_nil _ _ _ _, b1⟩
  | true =>
    have hh : hasN l id = true := by unfold isK at h; rw [Bool.and_eq_true] at h; exact h.1
    obtain ⟨m, hI⟩ := Is.of hh
    obtain ⟨rfl, h0⟩ := (⟨hI.eq, hI.lt⟩ : id = (m : Int) ∧ m < l.length)
    have hR := hide hI.right
    have hlen := hI.right.len.2
    have EL : Hid (listP l (m : Int) = (orderP l (m : Int)).filter (optB l (m : Int))) := if_pos h
    have few := order_few hI.right h0
    have RNG : Hid (∀ x ∈ orderP l (m : Int), 0 ≤ x ∧ x < (l.length : Int)) := fun x hx => by
      have := (order_mem hI.right (by omega) (by omega) x).1 hx
      exact ⟨this.1, this.2.1⟩
    rw [h] at HI
    have hv' := hide hv
    have HOr := hide (fun W (hb : Below w.heap.size w W) => refOrder_any v l m W (hv'.out.below hb) hR.out h0)
    have HOw := hide (fun q W (hq : q < l.length) (hb : Below w.heap.size w W) => refOwner_any v l q W (hv'.out.below hb) hR.out hq)
    obtain ⟨p, c, rfl, hv⟩ := hv
    rcases hv with hv | ⟨b, o, rfl, hv⟩
    · rw [hv] at h0; simp at h0
    have HV := hide hv
    have i0 : (0 : Int) ≤ (m : Int) := by omega
    have i1 : (m : Int) < (l.length : Int) := by omega
    have OB : Hid (∀ q (hq : q < l.length), optB l (m : Int) (q : Int) = (decide (l[q].name = oOpt) && decide (ownP l (q : Int) = (m : Int)))) := fun q hq => by unfold optB; rw [nmI_at hq]
    obtain ⟨iI, hI0, hI1, hI2, hI3⟩ := info_parts infoI
    clear h hh hI hv hz hv' hR
    generalize orderP l (m : Int) = ord at *
    generalize optB l (m : Int) = P at *
    go_enter Tryz.func153, Tryz.ntmps153
    go_wp2_with fail
    refine HI.out.mono ?_
    rintro e w1 ⟨rfl, b1⟩
    go_wp2_with fail
    refine (HOr.out _ b1).mono ?_
    rintro e w2 ⟨av, rfl, ko, b2⟩
    have IV := hide ko.ints
    have B2 := hide (chain b1 b2)
    obtain ⟨pa, ca, rfl, _⟩ := ko.ints
    clear HOr HI ko b1 b2
    go_wp2_with fail
    go_loopw [5, 7] (fun ov iv wr => ∃ k : Nat, k ≤ ord.length ∧ iv = .int .i64 k ∧ Hid (KidsO w2.heap.size wr ov ((ord.take k).filter P)) ∧ Hid (Below w2.heap.size w2 wr)) (fun _ iv _ => ord.length - (intOf iv).toNat)
    case atStart => exact ⟨0, Nat.zero_le _, rfl, World.ownsRow_nil _ _ _ _, Below.refl _ _⟩
    case round =>
      rename World => wr
      obtain ⟨k, hk, rfl, KX, BW⟩ := hrel
      have BWW := hide (chain B2.out BW.out)
      obtain ⟨px, cx, ex, hcx⟩ := kids_form KX.out
      by_cases g : k < ord.length
      · have k1 : (k : Int) < (ord.length : Int) := by omega
        obtain ⟨pa', ca', eva, hav⟩ := IV.out.below BW.out
        cases eva
        rcases hav with hav | ⟨b2, o2, rfl, hav⟩
        · rw [hav] at g; simp at g
        have x0 := hav k g
        have rx := RNG.out ord[k] (List.getElem_mem g)
        obtain ⟨q, eq, hq⟩ := nat_of (z := ord[k]) (n := l.length) (by omega) rx.2
        have OBq := OB.out q hq
        rw [eq] at x0
        have q0 : (0 : Int) ≤ (q : Int) := by omega
        have q1 : (q : Int) < (l.length : Int) := by omega
        obtain ⟨va, vk, N0⟩ := HV.out q hq
        have n0 := cell_below N0.name BWW.out
        have FN := hide (filt_no (p := P) g)
        have FY := hide (filt_yes (p := P) g)
        have fl : ((ord.take k).filter P).length ≤ 400 := by have := List.length_filter_le P (ord.take k); rw [List.length_take] at this; omega
        have HO := hide (fun W hb => HOw.out q W hq hb)
        rw [eq] at FN FY
        clear N0 hav eq rx HOw RNG OB EL
        by_cases g1 : l[q].name = oOpt
        · have t1 : (l[q].name.toList == [111, 112, 116, 105, 111, 110]) = true := lit_yes g1
          rw [decide_eq_true g1, Bool.true_and] at OBq
          by_cases g2 : ownP l (q : Int) = (m : Int)
          · rw [decide_eq_true g2] at OBq
            have E1 := hide (FY.out OBq)
            have d2 : (ownP l (q : Int) == (m : Int)) = true := beq_iff_eq.2 g2
            clear FN FY OBq g1 g2
            generalize ownP l (q : Int) = z at *
            generalize l[q].name = y at *
            generalize (ord.take k).filter P = xs at *
            replace E1 : Hid ((ord.take (k + 1)).filter P = xs ++ [(q : Int)]) := E1
            have Bw : w2.heap.size ≤ wr.heap.size := BW.out.size
            have OW := hide (World.ownsRow.alloc KX.out (.cells #[.int .i64 (q : Int)] 3))
            have RW := hide ((NB.new wr [.int .i64 (q : Int)] 3).raw 1 1 rfl 1)
            have hBa : Hid (w2.heap.size ≤ (wr.alloc (.cells #[.int .i64 (q : Int)] 3)).heap.size) := by show _ ≤ _; simp; omega
            clear ex hcx
            go_wp2_with fail
            refine (HO.out _ BWW.out).mono ?_
            rintro e u ⟨rfl, hu⟩
            obtain rfl : wr = u := hu.symm
            go_wp2_with (at_builtin; refine wpList_append_raw rfl _ _ _ rfl w2.heap.size 3 iI _ 1 8 Tryz.underlying55 hI0 hI1 hI2 hI3 rfl (by omega) u5 xs.length (cellsI xs) rfl OW.out _ 1 _ rfl RW.out (by simp [Value.oneCell']) (by unfold maxLen; omega) (by omega) hBa.out ?_; intro q1 c1 w3 own1 gr1 at1)
            have B3 : Hid (Below w2.heap.size w2 w3) := BW.out.trans (((Chg.alloc wr _).nil.trans (Chg.of_grown gr1)).below Bw (fun k hk => (OW.out.lt k (opt_mem.1 hk)).1))
            have KX1 : Hid (KidsO w2.heap.size w3 (.slice q1 (xs.length + 1) c1) ((ord.take (k + 1)).filter P)) := by
              show w3.ownsRow _ _ 1 _ ((ord.take (k + 1)).filter P).length (cellsI ((ord.take (k + 1)).filter P))
              rw [E1.out, List.length_append, cellsI_app]
              exact own1
            clear own1 gr1 at1 OW RW hBa
            go_roundw
            case rel => exact ⟨k + 1, by omega, by go_num, KX1, B3⟩
            case measure => simp [intOf]; omega
          · rw [decide_eq_false g2] at OBq
            have E1 : Hid (KidsO w2.heap.size wr u5 ((ord.take (k + 1)).filter P)) := by show KidsO _ _ _ _; rw [FN.out OBq]; exact KX.out
            have d2 : (ownP l (q : Int) == (m : Int)) = false := beq_eq_false_iff_ne.2 g2
            clear FN FY OBq g1 g2 KX ex hcx
            generalize ownP l (q : Int) = z at *
            generalize l[q].name = y at *
            go_wp2_with fail
            refine (HO.out _ BWW.out).mono ?_
            rintro e u ⟨rfl, hu⟩
            obtain rfl : wr = u := hu.symm
            go_wp2_with fail
            go_roundw
            case rel => exact ⟨k + 1, by omega, by go_num, E1, BW⟩
            case measure => simp [intOf]; omega
        · have t1 : (l[q].name.toList == [111, 112, 116, 105, 111, 110]) = false := lit_no g1
          rw [decide_eq_false g1, Bool.false_and] at OBq
          have E1 : Hid (KidsO w2.heap.size wr u5 ((ord.take (k + 1)).filter P)) := by show KidsO _ _ _ _; rw [FN.out OBq]; exact KX.out
          clear FN FY OBq g1 KX ex hcx HO
          generalize l[q].name = y at *
          go_wp2_with fail
          go_roundw
          case rel => exact ⟨k + 1, by omega, by go_num, E1, BW⟩
          case measure => simp [intOf]; omega
      · obtain rfl : k = ord.length := by omega
        have KE : Hid (KidsO w.heap.size wr u5 (listP l (m : Int))) := by
          show KidsO _ _ _ _
          rw [EL.out]
          have := KX.out
          rw [List.take_length] at this
          exact owns_mono this B2.out.size
        clear EL KX ex hcx
        go_wp2_with fail
        go_ret
        exact ⟨_, rfl, KE.out, BWW.out⟩
end Go.Proofs.YtnojgejcmaajmaaGreatDoor

namespace Go.Proofs.YtnojgejcmaajmaaGreatDoor
open Go.RowKit
theorem formL_append (a b : List UInt8) : formL (a ++ b) = formL a ++ formL b := by unfold formL; exact List.flatMap_append
end Go.Proofs.YtnojgejcmaajmaaGreatDoor

namespace Go.Proofs.YtnojgejcmaajmaaGreatDoor
open Go.RowKit
set_option maxRecDepth 100000
/-- The first place of a text, from a place on. -/
def fndI (t l : List UInt8) (k : Nat) : Int := match cutL t l with
  | some p => ((k + p.1.length : Nat) : Int)
  | none => -1
theorem cut_short {t : List UInt8} : ∀ {l : List UInt8}, l.length < t.length → cutL t l = none
  | [], h => cut_end (fun e => by rw [e] at h; simp at h)
  | c :: l, h => by
    have e : t.isPrefixOf (c :: l) = false := by
      cases q : t.isPrefixOf (c :: l) with
      | false => rfl
      | true =>
        have := (List.isPrefixOf_iff_prefix.1 q).length_le
        omega
    rw [cut_miss e, cut_short (by simp at h; omega)]; rfl
theorem fnd_hit' {t l : List UInt8} {k : Nat} (h : t.isPrefixOf l = true) : fndI t l k = (k : Int) := by
  unfold fndI; rw [cut_hit h]; rfl
theorem fnd_miss' {t l : List UInt8} {c : UInt8} {k : Nat} (h : t.isPrefixOf (c :: l) = false) : fndI t (c :: l) k = fndI t l (k + 1) := by
  unfold fndI; rw [cut_miss h]
  cases cutL t l with
  | none => rfl
  | some p =>
    show ((k + (c :: p.1).length : Nat) : Int) = ((k + 1 + p.1.length : Nat) : Int)
    rw [List.length_cons]; omega
theorem fnd_short {t l : List UInt8} {k : Nat} (h : l.length < t.length) : fndI t l k = -1 := by
  unfold fndI; rw [cut_short h]
theorem ext_pre (s t : ByteArray) (k : Nat) (_h : k + t.size ≤ s.size) : ((s.extract k (k + t.size)).toList == t.toList) = (bL t).isPrefixOf ((bL s).drop k) := by
  rw [ByteArray.toList_eq, ByteArray.toList_eq]
  simp only [ByteArray.data_extract, Array.toList_extract]
  rw [List.extract_eq_take_drop]
  have e : k + t.size - k = t.size := by omega
  rw [e, Bool.eq_iff_iff, beq_iff_eq, List.isPrefixOf_iff_prefix]
  constructor
  · intro q
    refine ⟨(List.drop t.size (List.drop k (bL s))), ?_⟩
    rw [show bL t = List.take t.size (List.drop k s.data.toList) from q.symm]
    exact List.take_append_drop _ _
  · rintro ⟨z, hz⟩
    have : List.take t.size (List.drop k (bL s)) = bL t := by
      rw [← hz]
      exact List.take_left' (len_bL t)
    exact this
set_option maxHeartbeats 4000000 in
theorem refFindP_any (s t : ByteArray) (f : Nat) (w : World) (hs : s.size ≤ 1099511627776) (ht : t.size ≤ 1099511627776) (hf : f ≤ s.size) :
    Calls Tryz.prog 158 #[.string s, .string t, .int .i64 (f : Int)] w fun e w' => e = .returned (.int .i64 (fndI (bL t) ((bL s).drop f) f)) ∧ w' = w := by
  obtain ⟨RES, hRES⟩ : ∃ R, Hid (fndI (bL t) ((bL s).drop f) f = R) := ⟨_, show _ = _ from rfl⟩
  rw [hRES.out]
  go_enter Tryz.func158, Tryz.ntmps158
  go_wp2_with fail
  go_loop [7] (fun iv => ∃ k : Nat, k ≤ s.size ∧ iv = .int .i64 k ∧ Hid (fndI (bL t) ((bL s).drop k) k = RES)) (fun iv => s.size + 1 - (intOf iv).toNat)
  case atStart => exact ⟨f, hf, rfl, hRES⟩
  case round =>
    obtain ⟨k, hk, rfl, HE⟩ := hrel
    clear hRES
    by_cases g : k + t.size ≤ s.size
    · have d0 : decide ((k : Int) + (t.size : Int) ≤ (s.size : Int)) = true := decide_eq_true (by omega)
      have k2 : (k : Int) + (t.size : Int) ≤ (s.size : Int) := by omega
      have k0 : (0 : Int) ≤ (k : Int) := by omega
      have EP := hide (ext_pre s t k g)
      cases q : (bL t).isPrefixOf ((bL s).drop k) with
      | true =>
        have q1 : ((s.extract k (k + t.size)).toList == t.toList) = true := by rw [EP.out, q]
        have R1 : Hid (RES = (k : Int)) := by show _ = _; rw [← HE.out]; exact fnd_hit' q
        clear EP HE q
        go_wp2_with fail
        go_ret
        exact ⟨ret_int R1.out.symm, rfl⟩
      | false =>
        have q1 : ((s.extract k (k + t.size)).toList == t.toList) = false := by rw [EP.out, q]
        have lt : k < s.size := by
          apply Classical.byContradiction
          intro h
          have t0 : t.size = 0 := by omega
          have : bL t = [] := List.eq_nil_of_length_eq_zero (by rw [len_bL]; exact t0)
          rw [this] at q
          simp at q
        have HN : Hid (fndI (bL t) ((bL s).drop (k + 1)) (k + 1) = RES) := by
          show _ = _
          have D := drop1 s k lt
          rw [← HE.out]
          rw [show (bL s).drop k = s[k] :: (bL s).drop (k + 1) from D] at q ⊢
          exact (fnd_miss' q).symm
        clear EP HE q
        go_wp2_with fail
        go_round
        case rel => exact ⟨k + 1, by omega, by go_num, HN⟩
        case measure => simp [intOf]; omega
    · have d0 : decide ((k : Int) + (t.size : Int) ≤ (s.size : Int)) = false := decide_eq_false (by omega)
      have R1 : Hid (RES = -1) := by
        show _ = _
        rw [← HE.out]
        exact fnd_short (by rw [List.length_drop, len_bL, len_bL]; omega)
      clear HE
      go_wp2_with fail
      go_ret
      exact ⟨ret_int R1.out.symm, rfl⟩
set_option maxHeartbeats 4000000 in
theorem refPart_any (e0 : En) (w : World) (hz : EnZ 1000000 e0) :
    Calls Tryz.prog 159 #[.agg #[.string e0.name, .string e0.val, .bool e0.file, .string e0.fname, .string e0.typ]] w fun e w' => e = .returned (.string (txt (partL e0))) ∧ Below w.heap.size w w' := by
  obtain ⟨z0, z1, z2, z3⟩ := hz
  have H0 := hide (fun W => refName_any_PrtR1 e0.name W (by omega))
  have H1 := hide (fun W => refName_any_PrtR1 e0.fname W (by omega))
  have H2 := hide (fun W => refTypeP_any e0.typ W (by omega))
  have H3 := hide (fun W => refPairs_any e0.val W (by omega))
  have s0 := name_size (s := e0.name)
  have s1 := name_size (s := e0.fname)
  have s2 := type_size (s := e0.typ)
  have s3 := pairsS_size e0.val
  have E : Hid (txt (partL e0) = txt (c1L ++ bL (txt (nameL (bL e0.name))) ++ [34] ++ (if e0.file = true then c2L ++ bL (txt (nameL (bL e0.fname))) ++ [34] ++ c3L ++ bL (txt (typeL (bL e0.typ))) else []) ++ c4L ++ (if e0.file = true then bL e0.val else bL (pairsS e0.val)))) := rfl
  have K := hide (Bk.new w [.string e0.name, .string e0.val, .bool e0.file, .string e0.fname, .string e0.typ] 76)
  have B0 : Hid (Below w.heap.size w (w.alloc (.cells #[.string e0.name, .string e0.val, .bool e0.file, .string e0.fname, .string e0.typ] 76))) := (Below.refl _ w).alloc (Nat.le_refl _) _
  generalize txt (partL e0) = RES at *
  generalize txt (nameL (bL e0.name)) = n0 at *
  generalize txt (nameL (bL e0.fname)) = n1 at *
  generalize txt (typeL (bL e0.typ)) = n2 at *
  generalize pairsS e0.val = n3 at *
  generalize e0.name = t0 at *
  generalize e0.val = t1 at *
  generalize e0.fname = t2 at *
  generalize e0.typ = t3 at *
  generalize e0.file = fb at *
  cases fb with
  | true =>
    rw [if_pos rfl, if_pos rfl] at E
    have E2 : Hid ((⟨#[67, 111, 110, 116, 101, 110, 116, 45, 68, 105, 115, 112, 111, 115, 105, 116, 105, 111, 110, 58, 32, 102, 111, 114, 109, 45, 100, 97, 116, 97, 59, 32, 110, 97, 109, 101, 61, 34]⟩ : ByteArray) ++ n0 ++ ⟨#[34]⟩ ++ ⟨#[59, 32, 102, 105, 108, 101, 110, 97, 109, 101, 61, 34]⟩ ++ n1 ++ ⟨#[34, 13, 10, 67, 111, 110, 116, 101, 110, 116, 45, 84, 121, 112, 101, 58, 32]⟩ ++ n2 ++ ⟨#[13, 10, 13, 10]⟩ ++ t1 = RES) := by
      show _ = _
      rw [E.out, ← txt_bL ((⟨#[67, 111, 110, 116, 101, 110, 116, 45, 68, 105, 115, 112, 111, 115, 105, 116, 105, 111, 110, 58, 32, 102, 111, 114, 109, 45, 100, 97, 116, 97, 59, 32, 110, 97, 109, 101, 61, 34]⟩ : ByteArray) ++ n0 ++ ⟨#[34]⟩ ++ ⟨#[59, 32, 102, 105, 108, 101, 110, 97, 109, 101, 61, 34]⟩ ++ n1 ++ ⟨#[34, 13, 10, 67, 111, 110, 116, 101, 110, 116, 45, 84, 121, 112, 101, 58, 32]⟩ ++ n2 ++ ⟨#[13, 10, 13, 10]⟩ ++ t1)]
      simp only [bL_app, List.append_assoc]
      rfl
    clear E H3
    have S0 : (⟨#[67, 111, 110, 116, 101, 110, 116, 45, 68, 105, 115, 112, 111, 115, 105, 116, 105, 111, 110, 58, 32, 102, 111, 114, 109, 45, 100, 97, 116, 97, 59, 32, 110, 97, 109, 101, 61, 34]⟩ : ByteArray).size ≤ 38 := by decide
    have S1 : ((⟨#[67, 111, 110, 116, 101, 110, 116, 45, 68, 105, 115, 112, 111, 115, 105, 116, 105, 111, 110, 58, 32, 102, 111, 114, 109, 45, 100, 97, 116, 97, 59, 32, 110, 97, 109, 101, 61, 34]⟩ : ByteArray) ++ n0).size ≤ 6000038 := app_le S0 (show n0.size ≤ 6000000 by omega)
    have S2 : ((⟨#[67, 111, 110, 116, 101, 110, 116, 45, 68, 105, 115, 112, 111, 115, 105, 116, 105, 111, 110, 58, 32, 102, 111, 114, 109, 45, 100, 97, 116, 97, 59, 32, 110, 97, 109, 101, 61, 34]⟩ : ByteArray) ++ n0 ++ (⟨#[34]⟩ : ByteArray)).size ≤ 6000039 := app_le S1 (show (⟨#[34]⟩ : ByteArray).size ≤ 1 by decide)
    have S3 : ((⟨#[67, 111, 110, 116, 101, 110, 116, 45, 68, 105, 115, 112, 111, 115, 105, 116, 105, 111, 110, 58, 32, 102, 111, 114, 109, 45, 100, 97, 116, 97, 59, 32, 110, 97, 109, 101, 61, 34]⟩ : ByteArray) ++ n0 ++ (⟨#[34]⟩ : ByteArray) ++ (⟨#[59, 32, 102, 105, 108, 101, 110, 97, 109, 101, 61, 34]⟩ : ByteArray)).size ≤ 6000051 := app_le S2 (show (⟨#[59, 32, 102, 105, 108, 101, 110, 97, 109, 101, 61, 34]⟩ : ByteArray).size ≤ 12 by decide)
    have S4 : ((⟨#[67, 111, 110, 116, 101, 110, 116, 45, 68, 105, 115, 112, 111, 115, 105, 116, 105, 111, 110, 58, 32, 102, 111, 114, 109, 45, 100, 97, 116, 97, 59, 32, 110, 97, 109, 101, 61, 34]⟩ : ByteArray) ++ n0 ++ (⟨#[34]⟩ : ByteArray) ++ (⟨#[59, 32, 102, 105, 108, 101, 110, 97, 109, 101, 61, 34]⟩ : ByteArray) ++ n1).size ≤ 12000051 := app_le S3 (show n1.size ≤ 6000000 by omega)
    have S5 : ((⟨#[67, 111, 110, 116, 101, 110, 116, 45, 68, 105, 115, 112, 111, 115, 105, 116, 105, 111, 110, 58, 32, 102, 111, 114, 109, 45, 100, 97, 116, 97, 59, 32, 110, 97, 109, 101, 61, 34]⟩ : ByteArray) ++ n0 ++ (⟨#[34]⟩ : ByteArray) ++ (⟨#[59, 32, 102, 105, 108, 101, 110, 97, 109, 101, 61, 34]⟩ : ByteArray) ++ n1 ++ (⟨#[34, 13, 10, 67, 111, 110, 116, 101, 110, 116, 45, 84, 121, 112, 101, 58, 32]⟩ : ByteArray)).size ≤ 12000068 := app_le S4 (show (⟨#[34, 13, 10, 67, 111, 110, 116, 101, 110, 116, 45, 84, 121, 112, 101, 58, 32]⟩ : ByteArray).size ≤ 17 by decide)
    have S6 : ((⟨#[67, 111, 110, 116, 101, 110, 116, 45, 68, 105, 115, 112, 111, 115, 105, 116, 105, 111, 110, 58, 32, 102, 111, 114, 109, 45, 100, 97, 116, 97, 59, 32, 110, 97, 109, 101, 61, 34]⟩ : ByteArray) ++ n0 ++ (⟨#[34]⟩ : ByteArray) ++ (⟨#[59, 32, 102, 105, 108, 101, 110, 97, 109, 101, 61, 34]⟩ : ByteArray) ++ n1 ++ (⟨#[34, 13, 10, 67, 111, 110, 116, 101, 110, 116, 45, 84, 121, 112, 101, 58, 32]⟩ : ByteArray) ++ n2).size ≤ 13000092 := app_le S5 (show n2.size ≤ 1000024 by omega)
    have S7 : ((⟨#[67, 111, 110, 116, 101, 110, 116, 45, 68, 105, 115, 112, 111, 115, 105, 116, 105, 111, 110, 58, 32, 102, 111, 114, 109, 45, 100, 97, 116, 97, 59, 32, 110, 97, 109, 101, 61, 34]⟩ : ByteArray) ++ n0 ++ (⟨#[34]⟩ : ByteArray) ++ (⟨#[59, 32, 102, 105, 108, 101, 110, 97, 109, 101, 61, 34]⟩ : ByteArray) ++ n1 ++ (⟨#[34, 13, 10, 67, 111, 110, 116, 101, 110, 116, 45, 84, 121, 112, 101, 58, 32]⟩ : ByteArray) ++ n2 ++ (⟨#[13, 10, 13, 10]⟩ : ByteArray)).size ≤ 13000096 := app_le S6 (show (⟨#[13, 10, 13, 10]⟩ : ByteArray).size ≤ 4 by decide)
    go_enter Tryz.func159, Tryz.ntmps159
    go_wp2_with fail
    refine (H0.out _).mono ?_
    rintro e w1 ⟨rfl, b1⟩
    have K1 := hide (K.out.below b1)
    have B1 := hide (chain B0.out b1)
    have x2 := K1.out.cell 2 rfl
    have DR : Below w1.heap.size w1 w1.drew := ⟨rfl, rfl, rfl, Nat.le_refl _, fun _ _ => rfl⟩
    have BD := hide (chain B1.out DR)
    have KD := hide (K1.out.below DR)
    have x1 := K1.out.cell 1 rfl
    have x3 := K1.out.cell 3 rfl
    have x4 := K1.out.cell 4 rfl
    clear b1 B0 K H0 DR B1
    go_wp2_with fail
    generalize (⟨#[67, 111, 110, 116, 101, 110, 116, 45, 68, 105, 115, 112, 111, 115, 105, 116, 105, 111, 110, 58, 32, 102, 111, 114, 109, 45, 100, 97, 116, 97, 59, 32, 110, 97, 109, 101, 61, 34]⟩ : ByteArray) ++ n0 ++ ⟨#[34]⟩ = g0 at *
    have p1 := fun w => run_string_add_sum (P := Tryz.prog) w (g0) (⟨#[59, 32, 102, 105, 108, 101, 110, 97, 109, 101, 61, 34]⟩ : ByteArray) (sum_le' S2 (show (⟨#[59, 32, 102, 105, 108, 101, 110, 97, 109, 101, 61, 34]⟩ : ByteArray).size ≤ 12 by decide) (by decide))
    have p2 := fun w => run_string_add_sum (P := Tryz.prog) w (g0 ++ (⟨#[59, 32, 102, 105, 108, 101, 110, 97, 109, 101, 61, 34]⟩ : ByteArray)) n1 (sum_le' S3 (show n1.size ≤ 6000000 by omega) (by decide))
    have p3 := fun w => run_string_add_sum (P := Tryz.prog) w (g0 ++ (⟨#[59, 32, 102, 105, 108, 101, 110, 97, 109, 101, 61, 34]⟩ : ByteArray) ++ n1) (⟨#[34, 13, 10, 67, 111, 110, 116, 101, 110, 116, 45, 84, 121, 112, 101, 58, 32]⟩ : ByteArray) (sum_le' S4 (show (⟨#[34, 13, 10, 67, 111, 110, 116, 101, 110, 116, 45, 84, 121, 112, 101, 58, 32]⟩ : ByteArray).size ≤ 17 by decide) (by decide))
    have p4 := fun w => run_string_add_sum (P := Tryz.prog) w (g0 ++ (⟨#[59, 32, 102, 105, 108, 101, 110, 97, 109, 101, 61, 34]⟩ : ByteArray) ++ n1 ++ (⟨#[34, 13, 10, 67, 111, 110, 116, 101, 110, 116, 45, 84, 121, 112, 101, 58, 32]⟩ : ByteArray)) n2 (sum_le' S5 (show n2.size ≤ 1000024 by omega) (by decide))
    have p5 := fun w => run_string_add_sum (P := Tryz.prog) w (g0 ++ (⟨#[59, 32, 102, 105, 108, 101, 110, 97, 109, 101, 61, 34]⟩ : ByteArray) ++ n1 ++ (⟨#[34, 13, 10, 67, 111, 110, 116, 101, 110, 116, 45, 84, 121, 112, 101, 58, 32]⟩ : ByteArray) ++ n2) (⟨#[13, 10, 13, 10]⟩ : ByteArray) (sum_le' S6 (show (⟨#[13, 10, 13, 10]⟩ : ByteArray).size ≤ 4 by decide) (by decide))
    have p6 := fun w => run_string_add_sum (P := Tryz.prog) w (g0 ++ (⟨#[59, 32, 102, 105, 108, 101, 110, 97, 109, 101, 61, 34]⟩ : ByteArray) ++ n1 ++ (⟨#[34, 13, 10, 67, 111, 110, 116, 101, 110, 116, 45, 84, 121, 112, 101, 58, 32]⟩ : ByteArray) ++ n2 ++ (⟨#[13, 10, 13, 10]⟩ : ByteArray)) t1 (sum_le' S7 (show t1.size ≤ 1000000 by omega) (by decide))
    refine wp_region_held_drew (S := fun X : World => X.cell? ⟨w.heap.size, 1, none⟩ = some (.string t1) ∧ X.cell? ⟨w.heap.size, 3, none⟩ = some (.string t2) ∧ X.cell? ⟨w.heap.size, 4, none⟩ = some (.string t3)) (by kernel_rfl) ?_ (fun hHeld => ?_)
    · exact ⟨x1, x3, x4⟩
    refine wpAnyH_take (i := 0) (oi := { dst := some 11, op := Op.move (Operand.tmp 3), type := 9, pos := "ref.go:88", after := #[], guard := none }) (v := ?_) rfl (by kernel_rfl) (by kernel_rfl) (by kernel_rfl) (fun _ _ _ h => h) (Or.inl ⟨by rfl, ?_⟩) (by assumption) ?_
    rotate_left
    · (intro w hSw; (try dsimp only at hSw); first | (go_simp; done) | (go_simp; with_reducible rfl))
    simp only [Act.put, List.setIfInBounds_toArray, List.set_cons_zero, List.set_cons_succ]
    refine wpAnyH_take (i := 1) (oi := { dst := some 12, op := Op.binOp BinOp.add 9 (Operand.tmp 11) (Operand.const (Value.string { data := #[59, 32, 102, 105, 108, 101, 110, 97, 109, 101, 61, 34] })) 9, type := 9, pos := "ref.go:88", after := #[{ on := 0, ground := Ground.data }], guard := none }) (v := ?_) rfl (by kernel_rfl) (by kernel_rfl) (by kernel_rfl) (fun _ _ _ h => h) (Or.inl ⟨by rfl, ?_⟩) (by assumption) ?_
    rotate_left
    · (intro w hSw; (try dsimp only at hSw); first | (go_simp; done) | (go_simp; with_reducible rfl))
    simp only [Act.put, List.setIfInBounds_toArray, List.set_cons_zero, List.set_cons_succ]
    refine wpAnyH_take (i := 2) (oi := { dst := some 13, op := Op.fieldAddr 76 (Operand.tmp 1) 3, type := 0, pos := "ref.go:88", after := #[], guard := none }) (v := ?_) rfl (by kernel_rfl) (by kernel_rfl) (by kernel_rfl) (fun _ _ _ h => h) (Or.inl ⟨by rfl, ?_⟩) (by assumption) ?_
    rotate_left
    · (intro w hSw; (try dsimp only at hSw); first | (go_simp; done) | (go_simp; with_reducible rfl))
    simp only [Act.put, List.setIfInBounds_toArray, List.set_cons_zero, List.set_cons_succ]
    refine wpAnyH_take (i := 3) (oi := { dst := some 14, op := Op.load 9 (Operand.tmp 13), type := 9, pos := "ref.go:88", after := #[{ on := 2, ground := Ground.data }], guard := none }) (v := ?_) rfl (by kernel_rfl) (by kernel_rfl) (by kernel_rfl) (fun _ _ _ h => h) (Or.inl ⟨by rfl, ?_⟩) (by assumption) ?_
    rotate_left
    · (intro w hSw; (try dsimp only at hSw); first | (go_simp; done) | (go_simp; with_reducible rfl))
    simp only [Act.put, List.setIfInBounds_toArray, List.set_cons_zero, List.set_cons_succ]
    refine wpAnyH_take (i := 7) (oi := { dst := some 18, op := Op.fieldAddr 76 (Operand.tmp 1) 4, type := 0, pos := "ref.go:88", after := #[], guard := none }) (v := ?_) rfl (by kernel_rfl) (by kernel_rfl) (by kernel_rfl) (fun _ _ _ h => h) (Or.inl ⟨by rfl, ?_⟩) (by assumption) ?_
    rotate_left
    · (intro w hSw; (try dsimp only at hSw); first | (go_simp; done) | (go_simp; with_reducible rfl))
    simp only [Act.put, List.setIfInBounds_toArray, List.set_cons_zero, List.set_cons_succ]
    refine wpAnyH_take (i := 8) (oi := { dst := some 19, op := Op.load 9 (Operand.tmp 18), type := 9, pos := "ref.go:88", after := #[{ on := 7, ground := Ground.data }], guard := none }) (v := ?_) rfl (by kernel_rfl) (by kernel_rfl) (by kernel_rfl) (fun _ _ _ h => h) (Or.inl ⟨by rfl, ?_⟩) (by assumption) ?_
    rotate_left
    · (intro w hSw; (try dsimp only at hSw); first | (go_simp; done) | (go_simp; with_reducible rfl))
    simp only [Act.put, List.setIfInBounds_toArray, List.set_cons_zero, List.set_cons_succ]
    refine wpAnyH_take (i := 12) (oi := { dst := some 23, op := Op.fieldAddr 76 (Operand.tmp 1) 1, type := 0, pos := "ref.go:88", after := #[], guard := none }) (v := ?_) rfl (by kernel_rfl) (by kernel_rfl) (by kernel_rfl) (fun _ _ _ h => h) (Or.inl ⟨by rfl, ?_⟩) (by assumption) ?_
    rotate_left
    · (intro w hSw; (try dsimp only at hSw); first | (go_simp; done) | (go_simp; with_reducible rfl))
    simp only [Act.put, List.setIfInBounds_toArray, List.set_cons_zero, List.set_cons_succ]
    refine wpAnyH_take (i := 13) (oi := { dst := some 24, op := Op.load 9 (Operand.tmp 23), type := 9, pos := "ref.go:88", after := #[{ on := 12, ground := Ground.data }], guard := none }) (v := ?_) rfl (by kernel_rfl) (by kernel_rfl) (by kernel_rfl) (fun _ _ _ h => h) (Or.inl ⟨by rfl, ?_⟩) (by assumption) ?_
    rotate_left
    · (intro w hSw; (try dsimp only at hSw); first | (go_simp; done) | (go_simp; with_reducible rfl))
    simp only [Act.put, List.setIfInBounds_toArray, List.set_cons_zero, List.set_cons_succ]
    refine wpAnyH_ready (rs := [4]) (by kernel_rfl) (by simp) ?_
    refine AllReadyH.cons (i := 4) (o := { dst := some 15, op := Op.call { callee := Callee.value (Operand.func 55), args := #[Operand.tmp 14], argTypes := #[9] }, type := 9, pos := "ref.go:88", after := #[{ on := 3, ground := Ground.data }], guard := none }) rfl (fun K hK => ?_) AllReadyH.nil
    go_simp
    refine (H1.out _).mono ?_
    rintro e w2 ⟨rfl, b2⟩
    have K2 := hide (KD.out.below b2)
    have B2 := hide (chain BD.out b2)
    clear b2
    go_wp2_with fail
    refine hK.out _ _ ?_ (fun hHeld => ?_)
    · exact ⟨K2.out.cell 1 rfl, K2.out.cell 3 rfl, K2.out.cell 4 rfl⟩
    clear hK K
    refine wpAnyH_take (i := 5) (oi := { dst := some 16, op := Op.binOp BinOp.add 9 (Operand.tmp 12) (Operand.tmp 15) 9, type := 9, pos := "ref.go:88", after := #[{ on := 1, ground := Ground.data }, { on := 4, ground := Ground.data }], guard := none }) (v := ?_) rfl (by kernel_rfl) (by kernel_rfl) (by kernel_rfl) (fun _ _ _ h => h) (Or.inl ⟨by rfl, ?_⟩) (by assumption) ?_
    rotate_left
    · (intro w hSw; (try dsimp only at hSw); first | (go_simp; done) | (go_simp; with_reducible rfl))
    simp only [Act.put, List.setIfInBounds_toArray, List.set_cons_zero, List.set_cons_succ]
    refine wpAnyH_take (i := 6) (oi := { dst := some 17, op := Op.binOp BinOp.add 9 (Operand.tmp 16) (Operand.const (Value.string { data := #[34, 13, 10, 67, 111, 110, 116, 101, 110, 116, 45, 84, 121, 112, 101, 58, 32] })) 9, type := 9, pos := "ref.go:88", after := #[{ on := 5, ground := Ground.data }], guard := none }) (v := ?_) rfl (by kernel_rfl) (by kernel_rfl) (by kernel_rfl) (fun _ _ _ h => h) (Or.inl ⟨by rfl, ?_⟩) (by assumption) ?_
    rotate_left
    · (intro w hSw; (try dsimp only at hSw); first | (go_simp; done) | (go_simp; with_reducible rfl))
    simp only [Act.put, List.setIfInBounds_toArray, List.set_cons_zero, List.set_cons_succ]
    refine wpAnyH_ready (rs := [9]) (by kernel_rfl) (by simp) ?_
    refine AllReadyH.cons (i := 9) (o := { dst := some 20, op := Op.call { callee := Callee.value (Operand.func 56), args := #[Operand.tmp 19], argTypes := #[9] }, type := 9, pos := "ref.go:88", after := #[{ on := 8, ground := Ground.data }, { on := 4, ground := Ground.chain }], guard := none }) rfl (fun K hK => ?_) AllReadyH.nil
    go_simp
    refine (H2.out _).mono ?_
    rintro e w3 ⟨rfl, hu⟩
    obtain rfl : w2 = w3 := hu.symm
    go_wp2_with fail
    refine hK.out _ _ ?_ (fun hHeld => ?_)
    · exact ⟨K2.out.cell 1 rfl, K2.out.cell 3 rfl, K2.out.cell 4 rfl⟩
    clear hK K
    refine wpAnyH_take (i := 10) (oi := { dst := some 21, op := Op.binOp BinOp.add 9 (Operand.tmp 17) (Operand.tmp 20) 9, type := 9, pos := "ref.go:88", after := #[{ on := 6, ground := Ground.data }, { on := 9, ground := Ground.data }], guard := none }) (v := ?_) rfl (by kernel_rfl) (by kernel_rfl) (by kernel_rfl) (fun _ _ _ h => h) (Or.inl ⟨by rfl, ?_⟩) (by assumption) ?_
    rotate_left
    · (intro w hSw; (try dsimp only at hSw); first | (go_simp; done) | (go_simp; with_reducible rfl))
    simp only [Act.put, List.setIfInBounds_toArray, List.set_cons_zero, List.set_cons_succ]
    refine wpAnyH_take (i := 11) (oi := { dst := some 22, op := Op.binOp BinOp.add 9 (Operand.tmp 21) (Operand.const (Value.string { data := #[13, 10, 13, 10] })) 9, type := 9, pos := "ref.go:88", after := #[{ on := 10, ground := Ground.data }], guard := none }) (v := ?_) rfl (by kernel_rfl) (by kernel_rfl) (by kernel_rfl) (fun _ _ _ h => h) (Or.inl ⟨by rfl, ?_⟩) (by assumption) ?_
    rotate_left
    · (intro w hSw; (try dsimp only at hSw); first | (go_simp; done) | (go_simp; with_reducible rfl))
    simp only [Act.put, List.setIfInBounds_toArray, List.set_cons_zero, List.set_cons_succ]
    refine wpAnyH_take (i := 14) (oi := { dst := some 25, op := Op.binOp BinOp.add 9 (Operand.tmp 22) (Operand.tmp 24) 9, type := 9, pos := "ref.go:88", after := #[{ on := 11, ground := Ground.data }, { on := 13, ground := Ground.data }], guard := none }) (v := ?_) rfl (by kernel_rfl) (by kernel_rfl) (by kernel_rfl) (fun _ _ _ h => h) (Or.inl ⟨by rfl, ?_⟩) (by assumption) ?_
    rotate_left
    · (intro w hSw; (try dsimp only at hSw); first | (go_simp; done) | (go_simp; with_reducible rfl))
    simp only [Act.put, List.setIfInBounds_toArray, List.set_cons_zero, List.set_cons_succ]
    refine wpAnyH_take (i := 15) (oi := { dst := some 2, op := Op.assign (Operand.tmp 25), type := 9, pos := "ref.go:88", after := #[{ on := 14, ground := Ground.data }, { on := 9, ground := Ground.chain }, { on := 0, ground := Ground.phase }, { on := 1, ground := Ground.phase }, { on := 2, ground := Ground.phase }, { on := 3, ground := Ground.phase }, { on := 4, ground := Ground.phase }, { on := 5, ground := Ground.phase }, { on := 6, ground := Ground.phase }, { on := 7, ground := Ground.phase }, { on := 8, ground := Ground.phase }, { on := 9, ground := Ground.phase }, { on := 10, ground := Ground.phase }, { on := 11, ground := Ground.phase }, { on := 12, ground := Ground.phase }, { on := 13, ground := Ground.phase }, { on := 14, ground := Ground.phase }], guard := none }) (v := ?_) rfl (by kernel_rfl) (by kernel_rfl) (by kernel_rfl) (fun _ _ _ h => h) (Or.inl ⟨by rfl, ?_⟩) (by assumption) ?_
    rotate_left
    · (intro w hSw; (try dsimp only at hSw); first | (go_simp; done) | (go_simp; with_reducible rfl))
    simp only [Act.put, List.setIfInBounds_toArray, List.set_cons_zero, List.set_cons_succ]
    refine wpAnyH_done (by kernel_rfl) ?_ _
    go_wp2_with fail
    go_ret
    exact ⟨ret_txt E2.out, B2.out⟩
  | false =>
    rw [if_neg (by decide), if_neg (by decide), List.append_nil] at E
    have E2 : Hid ((⟨#[67, 111, 110, 116, 101, 110, 116, 45, 68, 105, 115, 112, 111, 115, 105, 116, 105, 111, 110, 58, 32, 102, 111, 114, 109, 45, 100, 97, 116, 97, 59, 32, 110, 97, 109, 101, 61, 34]⟩ : ByteArray) ++ n0 ++ ⟨#[34]⟩ ++ ⟨#[13, 10, 13, 10]⟩ ++ n3 = RES) := by
      show _ = _
      rw [E.out, ← txt_bL ((⟨#[67, 111, 110, 116, 101, 110, 116, 45, 68, 105, 115, 112, 111, 115, 105, 116, 105, 111, 110, 58, 32, 102, 111, 114, 109, 45, 100, 97, 116, 97, 59, 32, 110, 97, 109, 101, 61, 34]⟩ : ByteArray) ++ n0 ++ ⟨#[34]⟩ ++ ⟨#[13, 10, 13, 10]⟩ ++ n3)]
      simp only [bL_app, List.append_assoc]
      rfl
    clear E H1 H2
    have S0 : (⟨#[67, 111, 110, 116, 101, 110, 116, 45, 68, 105, 115, 112, 111, 115, 105, 116, 105, 111, 110, 58, 32, 102, 111, 114, 109, 45, 100, 97, 116, 97, 59, 32, 110, 97, 109, 101, 61, 34]⟩ : ByteArray).size ≤ 38 := by decide
    have S1 : ((⟨#[67, 111, 110, 116, 101, 110, 116, 45, 68, 105, 115, 112, 111, 115, 105, 116, 105, 111, 110, 58, 32, 102, 111, 114, 109, 45, 100, 97, 116, 97, 59, 32, 110, 97, 109, 101, 61, 34]⟩ : ByteArray) ++ n0).size ≤ 6000038 := app_le S0 (show n0.size ≤ 6000000 by omega)
    have S2 : ((⟨#[67, 111, 110, 116, 101, 110, 116, 45, 68, 105, 115, 112, 111, 115, 105, 116, 105, 111, 110, 58, 32, 102, 111, 114, 109, 45, 100, 97, 116, 97, 59, 32, 110, 97, 109, 101, 61, 34]⟩ : ByteArray) ++ n0 ++ (⟨#[34]⟩ : ByteArray)).size ≤ 6000039 := app_le S1 (show (⟨#[34]⟩ : ByteArray).size ≤ 1 by decide)
    have S3 : ((⟨#[67, 111, 110, 116, 101, 110, 116, 45, 68, 105, 115, 112, 111, 115, 105, 116, 105, 111, 110, 58, 32, 102, 111, 114, 109, 45, 100, 97, 116, 97, 59, 32, 110, 97, 109, 101, 61, 34]⟩ : ByteArray) ++ n0 ++ (⟨#[34]⟩ : ByteArray) ++ (⟨#[13, 10, 13, 10]⟩ : ByteArray)).size ≤ 6000043 := app_le S2 (show (⟨#[13, 10, 13, 10]⟩ : ByteArray).size ≤ 4 by decide)
    go_enter Tryz.func159, Tryz.ntmps159
    go_wp2_with fail
    refine (H0.out _).mono ?_
    rintro e w1 ⟨rfl, b1⟩
    have K1 := hide (K.out.below b1)
    have B1 := hide (chain B0.out b1)
    have x2 := K1.out.cell 2 rfl
    have x1 := K1.out.cell 1 rfl
    clear b1 B0 K H0
    go_wp2_with fail
    refine (H3.out _).mono ?_
    rintro e w2 ⟨rfl, b2⟩
    have B2 := hide (chain B1.out b2)
    go_wp2_with fail
    go_ret
    exact ⟨ret_txt E2.out, B2.out⟩
end Go.Proofs.YtnojgejcmaajmaaGreatDoor

namespace Go.Proofs.YtnojgejcmaajmaaGreatDoor
open Go.Shelf
open Go.RowKit
set_option maxRecDepth 100000
set_option maxHeartbeats 400000 in
theorem refBlank_any (c : UInt8) (w : World) :
    Calls Tryz.prog 250 #[.int .u8 (c.toNat : Int)] w fun e w' => e = .returned (.bool (isBl c)) ∧ w' = w := by
  have HB := hide (isBl_iff c)
  generalize (c.toNat : Int) = x at *
  cases hx : isBl c with
  | true =>
    have h5 := HB.out.1 hx
    clear hx HB
    rcases h5 with rfl | rfl | rfl | rfl | rfl
    all_goals
      go_enter Tryz.func250, Tryz.ntmps250
      go_wp2
      go_ret
      exact ⟨rfl, rfl⟩
  | false =>
    have h5 : ¬ (x = 9 ∨ x = 10 ∨ x = 12 ∨ x = 13 ∨ x = 32) := fun h => by rw [HB.out.2 h] at hx; cases hx
    have q1 : (x == 9) = false := by simp; omega
    have q2 : (x == 10) = false := by simp; omega
    have q3 : (x == 12) = false := by simp; omega
    have q4 : (x == 13) = false := by simp; omega
    have q5 : (x == 32) = false := by simp; omega
    clear hx HB h5
    go_enter Tryz.func250, Tryz.ntmps250
    go_wp2
    go_ret
    exact ⟨rfl, rfl⟩
end Go.Proofs.YtnojgejcmaajmaaGreatDoor

namespace Go.Proofs.YtnojgejcmaajmaaGreatDoor
open Go.RowKit
theorem sub_txt (s : ByteArray) (j k : Nat) : s.extract j k = txt (sub s j k) := by
  unfold txt sub
  have : (s.extract j k).data = ((s.data.toList.drop j).take (k - j)).toArray := by
    apply Array.ext'; simp
  cases h : s.extract j k with
  | mk d => rw [h] at this; exact congrArg ByteArray.mk this
theorem drop_at (s : ByteArray) (k : Nat) (h : k < s.size) : s.data.toList.drop k = s[k] :: s.data.toList.drop (k + 1) := by
  rw [List.drop_eq_getElem_cons (by simpa using h)]; rfl
theorem sub_one (s : ByteArray) (k : Nat) (h : k < s.size) : sub s k (k + 1) = [s[k]] := by
  unfold sub; rw [drop_at s k h, Nat.add_sub_cancel_left]; rfl
theorem sub_succ (s : ByteArray) (j k : Nat) (hj : j ≤ k) (h : k < s.size) : sub s j (k + 1) = sub s j k ++ [s[k]] := by
  unfold sub
  have e : k + 1 - j = (k - j) + 1 := by omega
  have hl : k - j < (s.data.toList.drop j).length := by simp; omega
  rw [e, List.take_succ_eq_append_getElem hl]
  congr 2
  rw [List.getElem_drop]
  have e2 : j + (k - j) = k := by omega
  simp only [e2]; rfl
theorem sub_ne (s : ByteArray) (j k : Nat) (hj : j < k) (h : k ≤ s.size) : sub s j k ≠ [] := by
  intro e; have := congrArg List.length e; simp [sub] at this; omega
/-- What the loop has behind k bytes: the words that are done; where the one begins that is being read (-1: none is). -/
def WS (s : ByteArray) (k : Nat) (f : Int) (done : List (List UInt8)) : Prop :=
  done.length ≤ k ∧ ((f = -1 ∧ k ≤ s.size ∧ done ++ wordsG [] (s.data.toList.drop k) = wordsG [] s.data.toList) ∨
    (∃ j : Nat, f = j ∧ j < k ∧ k ≤ s.size ∧ done ++ wordsG (sub s j k) (s.data.toList.drop k) = wordsG [] s.data.toList) ∨ (f = -1 ∧ k = s.size + 1 ∧ done = wordsG [] s.data.toList))
theorem ws_zero (s : ByteArray) : WS s 0 (-1) [] := ⟨by simp, .inl ⟨rfl, Nat.zero_le _, by simp⟩⟩
theorem ws_len {s : ByteArray} {k : Nat} {f : Int} {done : List (List UInt8)} (h : WS s k f done) : done.length ≤ k := h.1
theorem ws_none {s : ByteArray} {k : Nat} {done : List (List UInt8)} (h : WS s k (-1) done) (hk : k ≤ s.size) : done ++ wordsG [] (s.data.toList.drop k) = wordsG [] s.data.toList := by
  rcases h.2 with ⟨_, _, h⟩ | ⟨j, h, _⟩ | ⟨_, h, _⟩
  · exact h
  · omega
  · omega
theorem ws_in {s : ByteArray} {j k : Nat} {done : List (List UInt8)} (h : WS s k (j : Int) done) : j < k ∧ k ≤ s.size ∧ done ++ wordsG (sub s j k) (s.data.toList.drop k) = wordsG [] s.data.toList := by
  rcases h.2 with ⟨h, _⟩ | ⟨i, h, r⟩ | ⟨h, _⟩
  · omega
  · obtain rfl : j = i := by omega
    exact r
  · omega
theorem ws_cases {s : ByteArray} {k : Nat} {f : Int} {done : List (List UInt8)} (h : WS s k f done) : f = -1 ∨ ∃ j : Nat, f = j := by
  rcases h.2 with ⟨h, _⟩ | ⟨j, h, _⟩ | ⟨h, _⟩
  · exact .inl h
  · exact .inr ⟨j, h⟩
  · exact .inl h
theorem ws_end {s : ByteArray} {k : Nat} {f : Int} {done : List (List UInt8)} (h : WS s k f done) (hk : ¬ k ≤ s.size) : done = wordsG [] s.data.toList := by
  rcases h.2 with ⟨_, h, _⟩ | ⟨j, _, _, h, _⟩ | ⟨_, _, h⟩
  · exact absurd h hk
  · exact absurd h hk
  · exact h
theorem wordsG_no {cur r : List UInt8} {c : UInt8} (h : isBl c = false) : wordsG cur (c :: r) = wordsG (cur ++ [c]) r := by
  show (if isBl c then _ else _) = _; rw [if_neg (by rw [h]; decide)]
theorem wordsG_bl {cur r : List UInt8} {c : UInt8} (h : isBl c = true) (hc : cur ≠ []) : wordsG cur (c :: r) = cur :: wordsG [] r := by
  show (if isBl c then _ else _) = _; rw [if_pos h, if_neg hc]
theorem wordsG_bl0 {r : List UInt8} {c : UInt8} (h : isBl c = true) : wordsG [] (c :: r) = wordsG [] r := by
  show (if isBl c then _ else _) = _; rw [if_pos h, if_pos rfl]
theorem ws_begin {s : ByteArray} {k : Nat} {done : List (List UInt8)} (h : WS s k (-1) done) (hk : k < s.size) (hb : isBl s[k] = false) : WS s (k + 1) (k : Int) done := by
  have e := ws_none h (by omega)
  rw [drop_at s k hk, wordsG_no hb] at e
  exact ⟨by have := h.1; omega, .inr (.inl ⟨k, rfl, by omega, by omega, by rw [sub_one s k hk]; exact e⟩)⟩
theorem ws_more {s : ByteArray} {j k : Nat} {done : List (List UInt8)} (h : WS s k (j : Int) done) (hk : k < s.size) (hb : isBl s[k] = false) : WS s (k + 1) (j : Int) done := by
  obtain ⟨h1, h2, e⟩ := ws_in h
  rw [drop_at s k hk, wordsG_no hb] at e
  exact ⟨by have := h.1; omega, .inr (.inl ⟨j, rfl, by omega, by omega, by rw [sub_succ s j k (by omega) hk]; exact e⟩)⟩
theorem ws_skip {s : ByteArray} {k : Nat} {done : List (List UInt8)} (h : WS s k (-1) done) (hk : k < s.size) (hb : isBl s[k] = true) : WS s (k + 1) (-1) done := by
  have e := ws_none h (by omega)
  rw [drop_at s k hk, wordsG_bl0 hb] at e
  exact ⟨by have := h.1; omega, .inl ⟨rfl, by omega, e⟩⟩
theorem ws_push {s : ByteArray} {j k : Nat} {done : List (List UInt8)} (h : WS s k (j : Int) done) (hk : k < s.size) (hb : isBl s[k] = true) : WS s (k + 1) (-1) (done ++ [sub s j k]) := by
  obtain ⟨h1, h2, e⟩ := ws_in h
  rw [drop_at s k hk, wordsG_bl hb (sub_ne s j k h1 h2)] at e
  exact ⟨by have := h.1; simp; omega, .inl ⟨rfl, by omega, by rw [List.append_assoc]; exact e⟩⟩
theorem ws_last {s : ByteArray} {done : List (List UInt8)} (h : WS s s.size (-1) done) : WS s (s.size + 1) (-1) done := by
  have e := ws_none h (Nat.le_refl _)
  rw [List.drop_eq_nil_of_le (by simp)] at e
  exact ⟨by have := h.1; omega, .inr (.inr ⟨rfl, rfl, by simpa [wordsG] using e⟩)⟩
theorem ws_final {s : ByteArray} {j : Nat} {done : List (List UInt8)} (h : WS s s.size (j : Int) done) : WS s (s.size + 1) (-1) (done ++ [sub s j s.size]) := by
  obtain ⟨h1, h2, e⟩ := ws_in h
  rw [List.drop_eq_nil_of_le (by simp)] at e
  have hne := sub_ne s j s.size h1 h2
  refine ⟨by have := h.1; simp; omega, .inr (.inr ⟨rfl, rfl, ?_⟩)⟩
  rw [← e]; show _ = done ++ (if sub s j s.size = [] then [] else [sub s j s.size]); rw [if_neg hne]
theorem wordsG_count : ∀ (l cur : List UInt8), (wordsG cur l).length ≤ l.length + 1
  | [], cur => by unfold wordsG; split <;> simp
  | c :: r, cur => by
    cases hb : isBl c with
    | true =>
      have := wordsG_count r []
      by_cases hc : cur = []
      · subst hc; rw [wordsG_bl0 hb]; simp only [List.length_cons]; omega
      · rw [wordsG_bl hb hc]; simp only [List.length_cons]; omega
    | false => rw [wordsG_no hb]; have := wordsG_count r (cur ++ [c]); simp only [List.length_cons]; omega
/-- Joined by k words. -/
theorem joinW_take (ws : List (List UInt8)) (k : Nat) (h : k < ws.length) : joinW (ws.take (k + 1)) = joinW (ws.take k) ++ (if k = 0 then [] else [32]) ++ ws[k] := by
  rw [List.take_succ_eq_append_getElem h]
  by_cases e : k = 0
  · subst e; simp [joinW, sepJ]
  · rw [if_neg e, joinW_snoc _ _ (by intro x; have := congrArg List.length x; rw [List.length_take] at this; simp at this; rcases this with h' | h'; exact e h'; subst h'; simp at h)]
theorem sepJ_len (ws : List (List UInt8)) : (sepJ ws).length = (ws.map (fun x => x.length + 1)).sum := by
  induction ws with
  | nil => rfl
  | cons a t ih => show (32 :: a ++ sepJ t).length = _; simp [ih]; omega
theorem sum_take_le (ws : List Nat) (k : Nat) : (ws.take k).sum ≤ ws.sum := by
  induction ws generalizing k with
  | nil => simp
  | cons a t ih => cases k with
    | zero => simp
    | succ k => simp; exact ih k
theorem joinW_len (ws : List (List UInt8)) : (joinW ws).length ≤ (sepJ ws).length := by
  cases ws with
  | nil => simp [joinW]
  | cons a t => show (a ++ sepJ t).length ≤ (32 :: a ++ sepJ t).length; simp
theorem sepJ_words_le (l : List UInt8) : (sepJ (wordsG [] l)).length ≤ 2 * l.length := by
  rw [(words_col l).2.2]; exact colF_le l 2
theorem joinW_take_le (l : List UInt8) (k : Nat) : (joinW ((wordsG [] l).take k)).length ≤ 2 * l.length := by
  have h1 := joinW_len ((wordsG [] l).take k)
  rw [sepJ_len, List.map_take] at h1
  have h2 := sum_take_le ((wordsG [] l).map fun x => x.length + 1) k
  rw [← sepJ_len] at h2
  have := sepJ_words_le l
  omega
theorem word_le (l : List UInt8) (k : Nat) (h : k < (wordsG [] l).length) : (wordsG [] l)[k].length ≤ 2 * l.length := by
  have h1 := joinW_take_le l (k + 1)
  rw [joinW_take _ _ h] at h1
  simp at h1; omega

end Go.Proofs.YtnojgejcmaajmaaGreatDoor
