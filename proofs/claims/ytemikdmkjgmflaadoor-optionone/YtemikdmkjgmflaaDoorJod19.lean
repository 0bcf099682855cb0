/- The example of layer 15's statements, and how long the states are that its functions answer. Rounds that change states of a row of the call's own. The program's first, selectOnly of layer 15. The program's fix of layer 15. The program's changed, Fix of layer 15. -/
import Derived.Test.YtemikdmkjgmflaaDoorJod18
import Derived.Test.YtemikdmkjgmflaaDoorJod20
import Derived.Test.YtemikdmkjgmflaaDoorJod24
import Derived.Test.YtemikdmkjgmflaaDoorJod25

namespace Go.Proofs.YtemikdmkjgmflaaDoor
open Go.RowKit
/-- A select with two options. -/
def exL : List Nd := [⟨⟨#[104, 116, 109, 108]⟩, ⟨#[]⟩, [], -1, [1]⟩, ⟨⟨#[115, 101, 108, 101, 99, 116]⟩, ⟨#[]⟩, [], 0, [2, 3]⟩, ⟨⟨#[111, 112, 116, 105, 111, 110]⟩, ⟨#[]⟩, [], 1, []⟩, ⟨⟨#[111, 112, 116, 105, 111, 110]⟩, ⟨#[]⟩, [], 1, []⟩]
def exC : List Ct := [ct0, ct0, ct0, ct0]
theorem ex_right : rightD exL exC = true := by decide +kernel
theorem ex_fix : fixO exL exC 1 = [ct0, ct0, { ct0 with sel := true }, ct0] := by kernel_rfl
theorem ex_choose : chooseO exL exC 3 true = ([ct0, ct0, { ct0 with dsel := true }, { ct0 with sel := true, dsel := true }], 0) := by kernel_rfl
theorem ex_sz : DocSz exL := ⟨by decide, fun n q => by
  simp only [exL, List.mem_cons, List.not_mem_nil, or_false] at q
  rcases q with rfl | rfl | rfl | rfl <;> exact ⟨by decide, by decide, (fun a q => by cases q), by decide, by decide, (fun a q => by cases q)⟩⟩
theorem ct0_fs : FsOK ct0.files := ⟨by decide, by decide, fun e q => (by cases q), fun e q => (by cases q)⟩
theorem ex_ok : CsOK exC := ⟨by decide, fun c q => by
  simp only [exC, List.mem_cons, List.not_mem_nil, or_false] at q
  rcases q with rfl | rfl | rfl | rfl <;> exact ct0_fs, fun c q => by
  simp only [exC, List.mem_cons, List.not_mem_nil, or_false] at q
  rcases q with rfl | rfl | rfl | rfl <;> exact ⟨by decide, by decide⟩⟩
/-- States that differ in flags alone. -/
structure Alike (C D : List Ct) : Prop where
  len : D.length = C.length
  at_ : ∀ i (h : i < D.length), ∃ c ∈ C, D[i].files = c.files ∧ D[i].val = c.val ∧ D[i].custom = c.custom
theorem Alike.ok {C D : List Ct} (a : Alike C D) (h : CsOK C) : CsOK D := by
  refine ⟨by rw [a.len]; exact h.len, fun c hc => ?_, fun c hc => ?_⟩
  · obtain ⟨i, hi, rfl⟩ := List.getElem_of_mem hc
    obtain ⟨c, hm, e, _⟩ := a.at_ i hi
    rw [e]; exact h.fs c hm
  · obtain ⟨i, hi, rfl⟩ := List.getElem_of_mem hc
    obtain ⟨c, hm, _, e1, e2⟩ := a.at_ i hi
    rw [e1, e2]; exact h.tx c hm
theorem Alike.refl (C : List Ct) : Alike C C := ⟨rfl, fun _ h => ⟨_, List.getElem_mem h, rfl, rfl, rfl⟩⟩
theorem Alike.trans {C D E : List Ct} (a : Alike C D) (b : Alike D E) : Alike C E := ⟨b.len.trans a.len, fun i h => by
  obtain ⟨d, hd, e1, e2, e3⟩ := b.at_ i h
  obtain ⟨j, hj, rfl⟩ := List.getElem_of_mem hd
  obtain ⟨c, hc, f1, f2, f3⟩ := a.at_ j hj
  exact ⟨c, hc, e1.trans f1, e2.trans f2, e3.trans f3⟩⟩
end Go.Proofs.YtemikdmkjgmflaaDoor

namespace Go.Proofs.YtemikdmkjgmflaaDoor
open Go.RowKit Go.Shelf
set_option maxRecDepth 100000
attribute [local go_sem] Oper.semAt_some
/-- One state of a row is changed. -/
def stepU (f : Int → Ct → Ct) (D : List Ct) (x : Int) : List Ct := setC D x (f x (st D x))
theorem stepU_len (f : Int → Ct → Ct) (D : List Ct) (x : Int) : (stepU f D x).length = D.length := by unfold stepU setC; rw [List.length_set]
theorem stepU_at {f : Int → Ct → Ct} {D : List Ct} {q : Nat} (h : q < D.length) : stepU f D (q : Int) = D.set q (f (q : Int) D[q]) := by
  unfold stepU setC st
  rw [Int.toNat_natCast, List.getD_eq_getElem?_getD, List.getElem?_eq_getElem h, Option.getD_some]
theorem foldU_len (f : Int → Ct → Ct) : ∀ (xs : List Int) (D : List Ct), (xs.foldl (stepU f) D).length = D.length
  | [], _ => rfl
  | x :: xs, D => by rw [List.foldl_cons, foldU_len f xs, stepU_len]
theorem foldU_upd {f : Int → Ct → Ct} {all : List Int} {C : List Ct} (hn : all.Nodup) (hr : ∀ i ∈ all, 0 ≤ i ∧ i < (C.length : Int)) : ∀ k, k ≤ all.length → (all.take k).foldl (stepU f) C = updP f (all.take k) C
  | 0, _ => by rw [List.take_zero, upd_nil]; rfl
  | k + 1, hk => by
    have ih := foldU_upd hn hr (f := f) k (by omega)
    have hk' : k < all.length := by omega
    have rx := hr all[k] (List.getElem_mem hk')
    obtain ⟨m, em, hm⟩ : ∃ m : Nat, all[k] = (m : Int) ∧ m < C.length := ⟨all[k].toNat, by omega, by omega⟩
    have us := upd_step (f := f) (C := C) hk' hn em hm
    rw [← us.1]
    rw [List.take_succ_eq_append_getElem hk', List.foldl_append, ih, em]
    show stepU f (updP f (all.take k) C) (m : Int) = _
    unfold stepU setC st
    rw [Int.toNat_natCast, List.getD_eq_getElem?_getD, us.2, Option.getD_some]
theorem foldU_all {f : Int → Ct → Ct} {all : List Int} {C : List Ct} (hn : all.Nodup) (hr : ∀ i ∈ all, 0 ≤ i ∧ i < (C.length : Int)) : all.foldl (stepU f) C = updP f all C := by
  have := foldU_upd (f := f) hn hr all.length (Nat.le_refl _)
  rwa [List.take_length] at this
theorem row_own {β : Type} (base : Nat) (e : TypeId) (size : Nat) (v : Value) (k : β → Nat) (f : β → List Value) : Own (fun s W => W.ownsRow base e size v (k s) (f s)) := fun s X Y row hs hg hrow =>
  owns_kept hs (Chg.of_grown hg) (fun j hj q => by
    obtain ⟨o, ho, hc⟩ := hrow j (opt_mem.1 q)
    rcases hs.2 with ⟨rfl, _⟩ | ⟨g, cap, cur, rfl, _, hgb, _⟩
    · cases hj
    · obtain rfl : g = j := Option.some.inj hj
      rw [hgb] at ho
      cases ho
      cases hc)
theorem ownFrom_chg {β : Type} {S : List Nat} {B : Nat} {w : World} (hB : w.heap.size ≤ B) : OwnFrom B (fun (_ : β) W => Chg S w W) := fun _ X Y row hs hg hr =>
  ⟨hg.os.trans hs.os, hg.tape.trans hs.tape, hg.output.trans hs.output, Nat.le_trans hs.size hg.size, fun i hi hn => (hg.block i (Nat.lt_of_lt_of_le hi hs.size) (fun q => by have := (hr i q.symm).1; omega)).trans (hs.block i hi hn)⟩
theorem boxed_far {W : World} {B g k : Nat} {t : TypeId} {v u : Value} (h : Boxed W B t v) (hn : B ≠ g) : Boxed (W.setCell ⟨g, k, none⟩ u) B t v := (Below.heap_setCell _ _ _ _ hn).trans h
end Go.Proofs.YtemikdmkjgmflaaDoor

namespace Go.Proofs.YtemikdmkjgmflaaDoor
open Go.RowKit Go.Shelf
set_option maxRecDepth 100000
attribute [local go_sem] Oper.semAt_some
theorem find_hit' {f : Int → Bool} {xs : List Int} : ∀ {pre : List Int} {x : Int}, pre ++ [x] <+: xs → (∀ y ∈ pre, f y = false) → f x = true → xs.find? f = some x := by
  intro pre x h h1 h2
  obtain ⟨r, rfl⟩ := h
  rw [List.append_assoc, List.find?_append, List.find?_eq_none.2 (fun y hy => by rw [h1 y hy]; decide)]
  simp [h2]
set_option maxHeartbeats 8000000 in
theorem opOnly_any (l : List Nd) (sel opt : Int) (p : Option Addr) (c base : Nat) (cv : Value) (C : List Ct) (F : List Value) (w0 w : World) (HI : Iter l sel p c w0) (hb : Below w0.heap.size w0 w) (hbase : w0.heap.size ≤ base) (hO : CtsO base w cv C F) (hr : ∀ i ∈ optsP l sel, 0 ≤ i ∧ i < (C.length : Int)) (hn : (optsP l sel).Nodup) :
    Calls Tryd.prog 29 #[.slice p l.length c, cv, .int .i64 sel, .int .i64 opt] w fun e w' => e = .returned (.tuple #[]) ∧ CtsO base w' cv (onlyP C (optsP l sel) opt) F ∧ Chg cv.ownBlock.toList w w' := by
  obtain ⟨pv, kv, rfl, hkv⟩ := hO.form
  have HIT := hide HI
  have HO := hide hO
  have HR := hide hr
  have ALL := hide (foldU_all (f := onlyF opt) hn hr)
  have OB : Hid (∀ g, (Value.slice pv C.length kv).ownBlock = some g → base ≤ g ∧ g < w.heap.size) := fun g hg => ⟨(hO.row.lt g hg).1, (hO.row.lt g hg).2⟩
  clear HI hO hr hn
  refine (callsIn_wide (n := 3)).1 ?_
  refine callsIn_of_wp_marks Tryd.func29 rfl trivial ?_ rfl
  simp only [Tryd.ntmps29, List.size_toArray, List.length_cons, List.length_nil, Nat.reduceAdd, Nat.reduceSub, Array.replicate_succ, Array.replicate_zero, List.push_toArray, List.append_toArray, List.nil_append, List.cons_append]
  gi_wp2
  refine ⟨trivial, ?_⟩
  refine (callsIn_wide.2 (options_any p l.length c sel _)).mono ?_
  rintro e w2 ⟨rfl, rfl⟩
  gi_wp2
  obtain ⟨w2, hw2⟩ : ∃ w2, (((w.alloc (.cells #[.slice pv C.length kv] 23)).alloc (.cells #[.int .i64 opt] 3)).alloc (.cells #[.slice p l.length c] 22)).alloc (.cells #[.int .i64 sel] 3) = w2 := ⟨_, rfl⟩
  have s2 : w2.heap.size = w.heap.size + 1 + 1 + 1 + 1 := by rw [← hw2]; simp
  have b2 : Below w.heap.size w w2 := by rw [← hw2]; exact ((((Below.refl _ w).alloc (Nat.le_refl _) _).alloc (by simp) _).alloc (by simp; omega) _).alloc (by simp; omega) _
  have bC : Boxed w2 w.heap.size 23 (.slice pv C.length kv) := by rw [← hw2]; exact (((Boxed.new w _ _).alloc _).alloc _).alloc _
  have bO : Boxed w2 (w.heap.size + 1) 3 (.int .i64 opt) := by
    have := Boxed.new (w.alloc (.cells #[.slice pv C.length kv] 23)) 3 (.int .i64 opt)
    rw [World.size_alloc] at this
    rw [← hw2]; exact (this.alloc _).alloc _
  have bL : Boxed w2 (w.heap.size + 1 + 1) 22 (.slice p l.length c) := by
    have := Boxed.new ((w.alloc (.cells #[.slice pv C.length kv] 23)).alloc (.cells #[.int .i64 opt] 3)) 22 (.slice p l.length c)
    rw [World.size_alloc, World.size_alloc] at this
    rw [← hw2]; exact this.alloc _
  have bS : Boxed w2 (w.heap.size + 1 + 1 + 1) 3 (.int .i64 sel) := by
    have := Boxed.new (((w.alloc (.cells #[.slice pv C.length kv] 23)).alloc (.cells #[.int .i64 opt] 3)).alloc (.cells #[.slice p l.length c] 22)) 3 (.int .i64 sel)
    rw [World.size_alloc, World.size_alloc, World.size_alloc] at this
    rw [← hw2]; exact this
  have hsw : w0.heap.size ≤ w.heap.size := hb.size
  rw [hw2]
  refine wpIn_rangeFunc_ownG rfl (by omega) (gf := 48) (lb := #[.pointer (some ⟨w.heap.size + 1 + 1, 0, none⟩), .pointer (some ⟨w.heap.size + 1 + 1 + 1, 0, none⟩)]) rfl trivial (enters_of Tryd.func48 (by kernel_rfl) rfl)
    (HIT.out w2 (w.heap.size + 1 + 1) (w.heap.size + 1 + 1 + 1) (chain hb b2) bL bS) kpB_t (kpB_b (by omega) (by intro b q; simp at q; omega)) (Below.refl _ _) (fun _ => rfl)
    (fun (pre : List (OptA l sel)) W => (Boxed W w.heap.size 23 (.slice pv C.length kv) ∧ Boxed W (w.heap.size + 1) 3 (.int .i64 opt)) ∧ W.ownsRow base 48 10 (.slice pv C.length kv) C.length (cellsC ((vals pre).foldl (stepU (onlyF opt)) C) F) ∧ Chg (Value.slice pv C.length kv).ownBlock.toList w W)
    (fun _ _ _ => False)
    (OwnFrom.and (OwnFrom.and (Own.from (boxed_own _ _ (fun _ => .slice pv C.length kv)) _) (Own.from (boxed_own _ _ (fun _ => .int .i64 opt)) _)) (OwnFrom.and (Own.from (row_own base 48 10 (.slice pv C.length kv) (fun _ => C.length) (fun pre : List (OptA l sel) => cellsC ((vals pre).foldl (stepU (onlyF opt)) C) F)) _) (ownFrom_chg (by omega))))
    (fun _ _ _ _ _ hs _ _ => hs)
    ⟨⟨bC, bO⟩, owns_kept HO.out.row (Chg.of_below b2) (fun _ _ q => by cases q), (Chg.of_below b2).nil⟩
    (fun x => { tmps := #[.slice p l.length c, .slice pv C.length kv, .int .i64 sel, .int .i64 opt, undef, .pointer (some ⟨w.heap.size, 0, none⟩), undef, .pointer (some ⟨w.heap.size + 1, 0, none⟩), .int .i64 x.1, .slice p l.length c, .int .i64 sel, .func (.func 48) #[] #[.pointer (some ⟨w.heap.size + 1 + 1, 0, none⟩), .pointer (some ⟨w.heap.size + 1 + 1 + 1, 0, none⟩)], .int .i64 x.1, undef, undef, undef, undef, undef, undef, undef], defers := [] }) ?assign ?body ?done ?stop
  case assign =>
    intro y x W K hK
    gi_wp2
    exact hK
  case body =>
    rintro y pre x W ⟨⟨hC, hP⟩, hrow, hch⟩ hlt
    have rx := HR.out x.1 x.2
    obtain ⟨q, eq, hq⟩ : ∃ q : Nat, x.1 = (q : Int) ∧ q < C.length := ⟨x.1.toNat, by omega, by omega⟩
    obtain ⟨g, kv', ev, eg, hg0, hg1, _⟩ := owns_at hrow (by omega)
    cases ev
    have og := OB.out g rfl
    have CO : CtsO base W (.slice (some ⟨g, 0, none⟩) ((vals pre).foldl (stepU (onlyF opt)) C).length kv) ((vals pre).foldl (stepU (onlyF opt)) C) F := ⟨by rw [foldU_len]; exact HO.out.len, by rw [foldU_len]; exact hrow⟩
    have hqD : q < ((vals pre).foldl (stepU (onlyF opt)) C).length := by rw [foldU_len]; exact hq
    have PUT := hide (CO.put (c' := onlyF opt (q : Int) ((vals pre).foldl (stepU (onlyF opt)) C)[q]) rfl hqD (j := 6) (by omega) (u := .bool ((q : Int) == opt)) (ctsel_set _ _ _))
    have c1 := hC.cell
    have c2 := hP.cell
    have c3 := CO.at_ rfl hqD 6 _ rfl
    have f3 : W.frozen? ⟨g, q * 10 + 6, none⟩ = false := owns_free hrow rfl _
    have q0 : (0 : Int) ≤ (q : Int) := by omega
    have q1 : (q : Int) < (C.length : Int) := by omega
    have EV := hide (show vals (pre ++ [x]) = vals pre ++ [(q : Int)] by rw [vals_app, eq])
    rw [eq]
    clear CO rx hrow
    gi_wp2
    have bW : Chg [g] W (W.setCell ⟨g, q * 10 + 6, none⟩ (.bool ((q : Int) == opt))) := Chg.setB _ _ _ _
    have sW := hch.size
    have gn : g < w.heap.size := og.2
    have gb : base ≤ g := og.1
    refine ⟨(KeepsOthers.setCell _ _ _).from _, ⟨bW.below (Nat.le_trans hsw sW) (fun k r => by rw [List.mem_singleton.1 r]; exact Nat.le_trans hbase gb), fun b r => Below.heap_setCell _ _ _ _ ?_⟩, ⟨⟨boxed_far hC (Nat.ne_of_gt gn), boxed_far hP (Nat.ne_of_gt (Nat.lt_succ_of_lt gn))⟩, ?_, hch.trans (bW.mono (fun k r _ => r))⟩⟩
    · simp only [List.mem_cons, List.not_mem_nil, or_false] at r
      rcases r with rfl | rfl
      · exact Nat.ne_of_gt (Nat.lt_succ_of_lt (Nat.lt_succ_of_lt gn))
      · exact Nat.ne_of_gt (Nat.lt_succ_of_lt (Nat.lt_succ_of_lt (Nat.lt_succ_of_lt gn)))
    · have pr := PUT.out.row
      rw [List.length_set, foldU_len] at pr
      rw [EV.out, List.foldl_append]
      show World.ownsRow _ _ _ _ _ _ (cellsC (stepU (onlyF opt) ((vals pre).foldl (stepU (onlyF opt)) C) (q : Int)) F)
      rw [stepU_at hqD]
      exact pr
  case done =>
    rintro D ys W hD hys ⟨⟨_, _⟩, hrow, hch⟩ hK
    rw [hys, ALL.out] at hrow
    gi_wp2
    refine ⟨by simp, .inl ⟨_, _, rfl, run_takeDeferred hK, ?_⟩⟩
    refine ⟨_, results_none rfl _ _ _, rfl, ⟨?_, ?_⟩, ?_⟩
    · unfold onlyP; rw [updC_len]; exact HO.out.len
    · have := ownsRow_putObj hrow (.deferred none) hK rfl
      unfold onlyP
      rw [updC_len]
      exact this
    · exact (ownFrom_chg (β := Unit) (Nat.le_refl _)).putObj (s := ()) _ hch (by omega) hK rfl
  case stop =>
    rintro D d pre W _ _ h _
    exact h.elim
set_option maxHeartbeats 8000000 in
theorem opFirst_any (l : List Nd) (sel : Int) (p : Option Addr) (c : Nat) (w0 w : World) (Bl Bs : Nat) (f : Int → Bool) (g : Nat) (lb : Array Value) (eg : ∀ args w, (callFunc g args).run Tryd.prog w = .ok (.enter g args) w) (HI : Iter l sel p c w0) (hb : Below w0.heap.size w0 w) (bL : Boxed w Bl 22 (.slice p l.length c)) (bS : Boxed w Bs 3 (.int .i64 sel))
    (HP : ∀ x ∈ optsP l sel, ∀ W, Below w.heap.size w W → Calls Tryd.prog g (#[.int .i64 x] ++ lb) W fun e w' => e = .returned (.bool (f x)) ∧ Below W.heap.size W w') :
    Calls Tryd.prog 52 #[.func (.func 48) #[] #[.pointer (some ⟨Bl, 0, none⟩), .pointer (some ⟨Bs, 0, none⟩)], .func (.func g) #[] lb] w fun e w' => e = .returned (.int .i64 (((optsP l sel).find? f).getD (-1))) ∧ Below w.heap.size w w' := by
  have HIT := hide HI
  have H3 := hide HP
  obtain ⟨RES, hRES⟩ : ∃ R : Int, ((optsP l sel).find? f).getD (-1) = R := ⟨_, rfl⟩
  have FNo : Hid ((∀ y ∈ optsP l sel, f y = false) → RES = -1) := fun h => by
    rw [← hRES, List.find?_eq_none.2 (fun y hy => by rw [h y hy]; decide)]; rfl
  have FH : Hid (∀ pr x, pr ++ [x] <+: optsP l sel → (∀ y ∈ pr, f y = false) → f x = true → RES = x) := fun pr x h1 h2 h3 => by
    rw [← hRES, find_hit' (f := f) h1 h2 h3]; rfl
  rw [hRES]
  clear hRES HI HP
  obtain ⟨w2, hw2⟩ : ∃ w2, (w.alloc (.cells #[.func (.func g) #[] lb] 69)).alloc (.cells #[.int .i64 0] 3) = w2 := ⟨_, rfl⟩
  have s2 : w2.heap.size = w.heap.size + 1 + 1 := by rw [← hw2]; simp
  have b2 : Below w.heap.size w w2 := by rw [← hw2]; exact ((Below.refl _ w).alloc (Nat.le_refl _) _).alloc (by simp) _
  have bF2 : Boxed w2 w.heap.size 69 (.func (.func g) #[] lb) := by rw [← hw2]; exact (Boxed.new w _ _).alloc _
  have bR2 : Boxed w2 (w.heap.size + 1) 3 (.int .i64 0) := by
    have := Boxed.new (w.alloc (.cells #[.func (.func g) #[] lb] 69)) 3 (.int .i64 0)
    rw [World.size_alloc] at this
    rw [← hw2]; exact this
  have bL2 : Boxed w2 Bl 22 (.slice p l.length c) := (b2.block _ bL.lt).trans bL
  have bS2 : Boxed w2 Bs 3 (.int .i64 sel) := (b2.block _ bS.lt).trans bS
  have lL := bL.lt
  have lS := bS.lt
  have l0 := hb.size
  refine (callsIn_wide (n := 3)).1 ?_
  refine callsIn_of_wp_marks Tryd.func52 rfl trivial ?_ rfl
  simp only [Tryd.ntmps52, List.size_toArray, List.length_cons, List.length_nil, Nat.reduceAdd, Nat.reduceSub, Array.replicate_succ, Array.replicate_zero, List.push_toArray, List.append_toArray, List.nil_append, List.cons_append]
  gi_wp2
  refine wpIn_rangeFunc_ownG rfl (by omega) (gf := 48) (lb := #[.pointer (some ⟨Bl, 0, none⟩), .pointer (some ⟨Bs, 0, none⟩)]) rfl trivial (enters_of Tryd.func48 (by kernel_rfl) rfl)
    (HIT.out w2 Bl Bs (chain hb b2) bL2 bS2) kpB_t (kpB_b (by omega) (by intro b q; simp at q; omega)) (Below.refl _ _) (fun _ => rfl)
    (fun (pre : List (OptA l sel)) W => (Boxed W w.heap.size 69 (.func (.func g) #[] lb) ∧ Boxed W (w.heap.size + 1) 3 (.int .i64 0)) ∧ (∀ x ∈ vals pre, f x = false) ∧ Below w.heap.size w W)
    (fun d (pre : List (OptA l sel)) W => (d = .ret ∧ ∃ pr x, vals pre = pr ++ [x] ∧ (∀ y ∈ pr, f y = false) ∧ f x = true ∧ Boxed W (w.heap.size + 1) 3 (.int .i64 x)) ∧ Below w.heap.size w W)
    (OwnFrom.and (OwnFrom.and (Own.from (boxed_own _ _ (fun _ => .func (.func g) #[] lb)) _) (Own.from (boxed_own _ _ (fun _ => .int .i64 0)) _)) (OwnFrom.and (ownFrom_pure _ _) (ownFrom_below (Nat.le_refl _) (by omega))))
    (fun d => OwnFrom.and (fun s X Y row hs hg hr => by
      obtain ⟨e, pr, x, e1, e2, e3, hb⟩ := hs
      exact ⟨e, pr, x, e1, e2, e3, (boxed_own (β := Unit) _ _ (fun _ => .int .i64 x)) () X Y row hb hg (fun r q => (hr r q).2)⟩) (ownFrom_below (Nat.le_refl _) (by omega)))
    ⟨⟨bF2, bR2⟩, (fun x q => by cases q), b2⟩
    (fun x => { tmps := #[.func (.func 48) #[] #[.pointer (some ⟨Bl, 0, none⟩), .pointer (some ⟨Bs, 0, none⟩)], .func (.func g) #[] lb, undef, .pointer (some ⟨w.heap.size, 0, none⟩), .pointer (some ⟨w.heap.size + 1, 0, none⟩), .int .i64 x.1, .func (.func 48) #[] #[.pointer (some ⟨Bl, 0, none⟩), .pointer (some ⟨Bs, 0, none⟩)], .int .i64 x.1, undef, undef, undef, undef], defers := [] }) ?assign ?body ?done ?stop
  case assign =>
    intro y x W K hK
    gi_wp2
    exact hK
  case body =>
    rintro y pre x W ⟨⟨hF, hSb⟩, hno, hB⟩ hlt
    have x1 := hF.cell
    have HT := hide (fun W (hb : Below w.heap.size w W) => H3.out x.1 x.2 W hb)
    have EV := hide (vals_app pre x)
    cases hf : f x.1 with
    | false =>
      rw [hf] at HT
      gi_wp2
      refine ⟨trivial, ?_⟩
      refine (CallsIn.inRound y (callsIn_wide.2 (HT.out _ hB))).mono ?_
      rintro e w5 ⟨rfl, b5⟩
      gi_wp2
      refine ⟨(KeepsOthers.of_grownBy (row := none) ⟨b5.os, b5.tape, b5.output, b5.size, fun k hk _ => b5.block k hk⟩ (fun j o e => by cases e)).from _, ⟨b5.mono (Nat.le_trans l0 hB.size), fun b q => b5.block b (by have := hB.size; simp at q; omega)⟩, ⟨⟨(b5.block _ hF.lt).trans hF, (b5.block _ hSb.lt).trans hSb⟩, (fun z hz => by
        rw [EV.out] at hz
        rcases List.mem_append.1 hz with t | t
        · exact hno z t
        · rw [List.mem_singleton.1 t]; exact hf), hB.trans (b5.mono hB.size)⟩⟩
    | true =>
      rw [hf] at HT
      gi_wp2
      refine ⟨trivial, ?_⟩
      refine (CallsIn.inRound y (callsIn_wide.2 (HT.out _ hB))).mono ?_
      rintro e w5 ⟨rfl, b5⟩
      have hS5 : Boxed w5 (w.heap.size + 1) 3 (.int .i64 0) := (b5.block _ hSb.lt).trans hSb
      have u1 := hS5.cell
      have u2 := hS5.frozen
      gi_wp2
      refine ⟨((KeepsOthers.of_grownBy (row := none) ⟨b5.os, b5.tape, b5.output, b5.size, fun k hk _ => b5.block k hk⟩ (fun j o e => by cases e)).trans (KeepsOthers.setCell _ _ _)).from _, ⟨rfl, vals pre, x.1, EV.out, hno, hf, hS5.set _⟩, ?_⟩
      exact (hB.trans (b5.mono hB.size)).setCell (p := ⟨w.heap.size + 1, 0, none⟩) (Nat.le_succ _) _
  case done =>
    rintro D ys W hD hys ⟨⟨hF, hSb⟩, hno, hB⟩ hK
    rw [hys] at hno
    have hs1 := hSb.cell
    have hs2 := hSb.frozen
    have e := FNo.out hno
    subst e
    gi_wp2
    have hK2 := (KeepsOthers.setCell W ⟨w.heap.size + 1, 0, none⟩ (.int .i64 (-1))).same D _ hK rfl
    have hc2 := cell_kept (hSb.set (.int .i64 (-1))).cell (grownBy_putObj' _ D (.deferred none)) (fun r e => by cases e; exact ⟨_, hK2, rfl⟩)
    have bF : Below w.heap.size w (W.setCell ⟨w.heap.size + 1, 0, none⟩ (.int .i64 (-1))) := hB.setCell (p := ⟨w.heap.size + 1, 0, none⟩) (Nat.le_succ _) _
    refine ⟨by simp, .inl ⟨_, _, rfl, run_takeDeferred hK2, ?_⟩⟩
    refine ⟨.int .i64 (-1), by simp [results, go_sem, hc2], rfl, bF.trans (belowK_b (w := w) (Nat.le_refl _) _ D _ _ (by omega) hK2 rfl rfl)⟩
  case stop =>
    rintro D d pre W hD hSp ⟨⟨rfl, pr, x, e1, e2, e3, hb⟩, hB⟩ hK
    rw [e1] at hSp
    have e := FH.out pr x hSp e2 e3
    subst e
    have hs1 := hb.cell
    gi_wp2
    have hc2 := cell_kept hs1 (grownBy_putObj' _ D (.deferred none)) (fun r e => by cases e; exact ⟨_, hK, rfl⟩)
    refine ⟨by simp, .inl ⟨_, _, rfl, run_takeDeferred hK, ?_⟩⟩
    refine ⟨.int .i64 RES, by simp [results, go_sem, hc2], rfl, hB.trans (belowK_b (w := w) (Nat.le_refl _) _ D _ _ (by omega) hK rfl rfl)⟩
end Go.Proofs.YtemikdmkjgmflaaDoor

namespace Go.Proofs.YtemikdmkjgmflaaDoor
open Go.RowKit Go.Shelf
set_option maxRecDepth 100000
attribute [local go_sem] Oper.semAt_some
theorem last_app {C : List Ct} {xs : List Int} {x : Int} : lastP C (xs ++ [x]) = if (st C x).sel = true then x else lastP C xs := by
  unfold lastP
  rw [List.filter_append]
  cases h : (st C x).sel with
  | true => simp [h]
  | false => simp [h]
theorem opts_opt {l : List Nd} {sel x : Int} (hk : isK l sel 23 = true) (hx : x ∈ optsP l sel) : ∃ m : Nat, x = (m : Int) ∧ m < l.length ∧ isK l x 32 = true := by
  have hr : rightB l = true := by
    unfold isK hasN at hk
    rw [Bool.and_eq_true, Bool.and_eq_true] at hk
    exact hk.1.2
  rw [← list_opts hk] at hx
  have e := list_in.2 x hx
  refine ⟨x.toNat, by omega, by omega, ?_⟩
  unfold listP at hx
  rw [if_pos hk] at hx
  have q := (List.mem_filter.1 hx).2
  unfold optB at q
  rw [Bool.and_eq_true, decide_eq_true_eq] at q
  unfold isK hasN kN
  rw [decide_eq_true e, hr, Bool.true_and, Bool.true_and]
  exact decide_eq_true (kOf_opt.2 q.1)
/-- What a call that works on states of the caller's own has about it. -/
structure Wrk (l : List Nd) (sel : Int) (p : Option Addr) (c base : Nat) (cv : Value) (C : List Ct) (F : List Value) (w0 w : World) : Prop where
  nds : NodesV w0 (.slice p l.length c) l
  sz : DocSz l
  tab : KTabs w0
  kind : isK l sel 23 = true
  right : Right l
  below : Below w0.heap.size w0 w
  low : w0.heap.size ≤ base
  own : CtsO base w cv C F
  len : C.length = l.length
theorem isK_in {l : List Nd} {sel k : Int} (h : isK l sel k = true) : inR l sel := by
  unfold isK hasN at h
  rw [Bool.and_eq_true, Bool.and_eq_true, decide_eq_true_eq] at h
  exact h.1.1
theorem Wrk.iter {l : List Nd} {sel : Int} {p : Option Addr} {c base : Nat} {cv : Value} {C : List Ct} {F : List Value} {w0 w : World} (h : Wrk l sel p c base cv C F w0 w) : Iter l sel p c w0 := iter_of h.nds h.sz h.tab h.right (isK_in h.kind)
theorem Wrk.rng {l : List Nd} {sel : Int} {p : Option Addr} {c base : Nat} {cv : Value} {C : List Ct} {F : List Value} {w0 w : World} (h : Wrk l sel p c base cv C F w0 w) : ∀ i ∈ optsP l sel, 0 ≤ i ∧ i < (C.length : Int) := fun i hi => by
  rw [← list_opts h.kind] at hi
  have := list_in.2 i hi
  rw [h.len]; exact this
theorem Wrk.nodup {l : List Nd} {sel : Int} {p : Option Addr} {c base : Nat} {cv : Value} {C : List Ct} {F : List Value} {w0 w : World} (h : Wrk l sel p c base cv C F w0 w) : (optsP l sel).Nodup := by
  rw [← list_opts h.kind]; exact list_in.1
theorem Wrk.later {l : List Nd} {sel : Int} {p : Option Addr} {c base : Nat} {cv : Value} {C : List Ct} {F : List Value} {w0 w w' : World} (h : Wrk l sel p c base cv C F w0 w) (hb : Below w.heap.size w w') : Wrk l sel p c base cv C F w0 w' :=
  ⟨h.nds, h.sz, h.tab, h.kind, h.right, chain h.below hb, h.low, h.own.kept hb, h.len⟩
theorem Wrk.chg {l : List Nd} {sel : Int} {p : Option Addr} {c base : Nat} {cv : Value} {C C' : List Ct} {F : List Value} {w0 w w' : World} (h : Wrk l sel p c base cv C F w0 w) (hc : Chg cv.ownBlock.toList w w') (hO : CtsO base w' cv C' F) (hl : C'.length = C.length) : Wrk l sel p c base cv C' F w0 w' :=
  ⟨h.nds, h.sz, h.tab, h.kind, h.right, h.below.trans (hc.below h.below.size (fun k hk => Nat.le_trans h.low ((h.own.row.lt k (opt_mem.1 hk)).1))), h.low, hO, hl.trans h.len⟩
theorem Wrk.only {l : List Nd} {sel : Int} {p : Option Addr} {c base : Nat} {cv : Value} {C : List Ct} {F : List Value} {w0 w : World} (h : Wrk l sel p c base cv C F w0 w) (opt : Int) :
    Calls Tryd.prog 29 #[.slice p l.length c, cv, .int .i64 sel, .int .i64 opt] w fun e w' => e = .returned (.tuple #[]) ∧ CtsO base w' cv (onlyP C (listP l sel) opt) F ∧ Chg cv.ownBlock.toList w w' := by
  rw [list_opts h.kind]
  exact opOnly_any l sel opt p c base cv C F w0 w h.iter h.below h.low h.own h.rng h.nodup
/-- Behind a range over a function: its record is taken off. -/
theorem work_end {base D : Nat} {w W : World} {cv : Value} {C : List Ct} {F : List Value} (hO : CtsO base W cv C F) (hc : Chg cv.ownBlock.toList w W) (hD : w.heap.size ≤ D) (hK : W.heap[D]? = some (.deferred (some []))) : CtsO base (W.putObj D (.deferred none)) cv C F ∧ Chg cv.ownBlock.toList w (W.putObj D (.deferred none)) :=
  ⟨⟨hO.len, ownsRow_putObj hO.row (.deferred none) hK rfl⟩, (ownFrom_chg (β := Unit) (Nat.le_refl _)).putObj (s := ()) _ hc hD hK rfl⟩
set_option maxHeartbeats 8000000 in
theorem opFix1_any (l : List Nd) (sel : Int) (p : Option Addr) (c : Nat) (w0 W : World) (B : Nat) (x : Int) (hv : NodesV w0 (.slice p l.length c) l) (hz : DocSz l) (hT : KTabs w0) (hk : isK l sel 23 = true) (hR : Right l) (hx : x ∈ optsP l sel) (hb : Below w0.heap.size w0 W) (bL : Boxed W B 22 (.slice p l.length c)) :
    Calls Tryd.prog 53 #[.int .i64 x, .pointer (some ⟨B, 0, none⟩)] W fun e w' => e = .returned (.bool (!offP l x)) ∧ Below W.heap.size W w' := by
  obtain ⟨m, rfl, hm, hk'⟩ := opts_opt hk hx
  have hp : parI l (m : Int) < (l.length : Int) := parI_lt hR (by omega) (by omega)
  have HO := hide (opIsOff_any (.slice p l.length c) l m W (hv.below hb) hz hm hp (hT.below hb))
  rw [← off_is hR hm hk'] at HO
  have x1 := bL.cell
  clear bL hb hp hk' hx hR hk hT hz hv
  generalize offP l (m : Int) = R at *
  go_enter Tryd.func53, Tryd.ntmps53
  go_wp2_with fail
  refine HO.out.mono ?_
  rintro e w1 ⟨rfl, b1⟩
  go_wp2_with fail
  go_ret
  exact ⟨ret_bool (by cases R <;> rfl), b1⟩
theorem entersFix1 : ∀ args w, (callFunc 53 args).run Tryd.prog w = .ok (.enter 53 args) w := Go.Proofs.enters_of Tryd.func53 (by kernel_rfl) rfl
set_option maxHeartbeats 8000000 in
theorem opFixIn_mul (l : List Nd) (sel : Int) (p : Option Addr) (c base : Nat) (cv : Value) (C : List Ct) (F : List Value) (w0 w : World) (hW : Wrk l sel p c base cv C F w0 w) (hmul : hasA (nd l sel.toNat) oMul = true) :
    Calls Tryd.prog 37 #[.slice p l.length c, cv, .int .i64 sel] w fun e w' => e = .returned (.tuple #[]) ∧ CtsO base w' cv (fixP l C sel) F ∧ Chg cv.ownBlock.toList w w' := by
  obtain ⟨pv, kv, rfl, hkv⟩ := hW.own.form
  have HW := hide hW
  have hs := isK_in hW.kind
  obtain ⟨m, rfl⟩ : ∃ m : Nat, sel = (m : Int) := ⟨sel.toNat, by have := hs.1; omega⟩
  have hm : m < l.length := by have := hs.2; omega
  obtain ⟨b, o, va, pk, nk, ck, rfl, N⟩ := node_of (hW.nds.below hW.below) hm
  have nz := hW.sz.nds _ (List.getElem_mem hm)
  have N0 := hide N
  obtain ⟨pa, ca, rfl, hxx⟩ := N.at_
  clear hxx N
  have i0 : (0 : Int) ≤ (m : Int) := by omega
  have i1 : (m : Int) < (l.length : Int) := by omega
  have B0 : Hid (Below w.heap.size w ((w.alloc (.cells #[.slice (some ⟨b, o, none⟩) l.length c] 22)).alloc (.cells #[.slice pv C.length kv] 23))) := ((Below.refl _ w).alloc (Nat.le_refl _) _).alloc (by simp) _
  have HM := hide (opMul_any l[m] (.slice pa l[m].attrs.length ca) pk nk ck ((w.alloc (.cells #[.slice (some ⟨b, o, none⟩) l.length c] 22)).alloc (.cells #[.slice pv C.length kv] 23)) (N0.out.at_.below B0.out) nz.attrs)
  have c0 := cell_below N0.out.name B0.out
  have c1 := cell_below N0.out.text B0.out
  have c2 := cell_below N0.out.attrs B0.out
  have c3 := cell_below N0.out.parent B0.out
  have c4 := cell_below N0.out.kids B0.out
  rw [Int.toNat_natCast, nd_at hm] at hmul
  have EF : Hid (fixP l C (m : Int) = C) := if_neg (fun t => by have := t.2; rw [Int.toNat_natCast, nd_at hm, hmul] at this; cases this)
  rw [hmul] at HM
  clear nz hmul hs hW
  go_enter Tryd.func37, Tryd.ntmps37
  go_wp2_with fail
  refine HM.out.mono ?_
  rintro e w1 ⟨rfl, b1⟩
  have B1 := chain B0.out b1
  go_wp2_with fail
  refine bodyPost_ret (results_none rfl _ _ _) rfl ?_
  rw [EF.out]
  exact ⟨rfl, HW.out.own.kept B1, (Chg.of_below B1).nil⟩
set_option maxHeartbeats 8000000 in
theorem opFixIn_one (l : List Nd) (sel : Int) (p : Option Addr) (c base : Nat) (cv : Value) (C : List Ct) (F : List Value) (w0 w : World) (hW : Wrk l sel p c base cv C F w0 w) (hmul : hasA (nd l sel.toNat) oMul = false) :
    Calls Tryd.prog 37 #[.slice p l.length c, cv, .int .i64 sel] w fun e w' => e = .returned (.tuple #[]) ∧ CtsO base w' cv (fixP l C sel) F ∧ Chg cv.ownBlock.toList w w' := by
  obtain ⟨pv, kv, rfl, hkv⟩ := hW.own.form
  have HW := hide hW
  have hs := isK_in hW.kind
  obtain ⟨m, rfl⟩ : ∃ m : Nat, sel = (m : Int) := ⟨sel.toNat, by have := hs.1; omega⟩
  have hm : m < l.length := by have := hs.2; omega
  obtain ⟨b, o, va, pk, nk, ck, rfl, N⟩ := node_of (hW.nds.below hW.below) hm
  have nz := hW.sz.nds _ (List.getElem_mem hm)
  have N0 := hide N
  obtain ⟨pa, ca, rfl, hxx⟩ := N.at_
  clear hxx N
  have i0 : (0 : Int) ≤ (m : Int) := by omega
  have i1 : (m : Int) < (l.length : Int) := by omega
  have B0 : Hid (Below w.heap.size w ((w.alloc (.cells #[.slice (some ⟨b, o, none⟩) l.length c] 22)).alloc (.cells #[.slice pv C.length kv] 23))) := ((Below.refl _ w).alloc (Nat.le_refl _) _).alloc (by simp) _
  have HM := hide (opMul_any l[m] (.slice pa l[m].attrs.length ca) pk nk ck ((w.alloc (.cells #[.slice (some ⟨b, o, none⟩) l.length c] 22)).alloc (.cells #[.slice pv C.length kv] 23)) (N0.out.at_.below B0.out) nz.attrs)
  have c0 := cell_below N0.out.name B0.out
  have c1 := cell_below N0.out.text B0.out
  have c2 := cell_below N0.out.attrs B0.out
  have c3 := cell_below N0.out.parent B0.out
  have c4 := cell_below N0.out.kids B0.out
  have EF : Hid (fixP l C (m : Int) = onlyP C (listP l (m : Int)) (pickP l C (m : Int) (listP l (m : Int)))) := if_pos ⟨hW.kind, hmul⟩
  rw [Int.toNat_natCast, nd_at hm] at hmul
  rw [hmul] at HM
  clear hmul
  refine (callsIn_wide (n := 3)).1 ?_
  refine callsIn_of_wp_marks Tryd.func37 rfl trivial ?_ rfl
  simp only [Tryd.ntmps37, List.size_toArray, List.length_cons, List.length_nil, Nat.reduceAdd, Nat.reduceSub, Array.replicate_succ, Array.replicate_zero, List.push_toArray, List.append_toArray, List.nil_append, List.cons_append]
  gi_wp2
  refine ⟨trivial, ?_⟩
  refine (callsIn_wide.2 HM.out).mono ?_
  rintro e w1 ⟨rfl, b1⟩
  have B1 := hide (chain B0.out b1)
  have bL1 : Boxed w1 w.heap.size 22 (.slice (some ⟨b, o, none⟩) l.length c) := (b1.block _ (by simp; omega)).trans ((Boxed.new w _ _).alloc _)
  have bC1 : Boxed w1 (w.heap.size + 1) 23 (.slice pv C.length kv) := (b1.block _ (by simp)).trans (by
    have := Boxed.new (w.alloc (.cells #[.slice (some ⟨b, o, none⟩) l.length c] 22)) 23 (.slice pv C.length kv)
    rw [World.size_alloc] at this
    exact this)
  obtain ⟨w2, hw2⟩ : ∃ w2, w1.alloc (.cells #[.int .i64 (-1)] 3) = w2 := ⟨_, rfl⟩
  have b2 : Below w1.heap.size w1 w2 := by rw [← hw2]; exact (Below.refl _ w1).alloc (Nat.le_refl _) _
  have bL2 : Boxed w2 w.heap.size 22 (.slice (some ⟨b, o, none⟩) l.length c) := (b2.block _ bL1.lt).trans bL1
  have bC2 : Boxed w2 (w.heap.size + 1) 23 (.slice pv C.length kv) := (b2.block _ bC1.lt).trans bC1
  have bX2 : Boxed w2 w1.heap.size 3 (.int .i64 (-1)) := by rw [← hw2]; exact Boxed.new w1 _ _
  have y1 := bL1.cell
  have y2 := bL2.cell
  clear c0 c1 c2 c3 c4
  gi_wp2
  refine ⟨trivial, ?_⟩
  refine (callsIn_wide.2 (options_any (some ⟨b, o, none⟩) l.length c (m : Int) _)).mono ?_
  rintro e w3 ⟨rfl, rfl⟩
  gi_wp2
  obtain ⟨w3, hw3⟩ : ∃ w3, (w2.alloc (.cells #[.slice (some ⟨b, o, none⟩) l.length c] 22)).alloc (.cells #[.int .i64 (m : Int)] 3) = w3 := ⟨_, rfl⟩
  have l2 : w1.heap.size < w2.heap.size := by rw [← hw2]; simp
  have l3 : w2.heap.size + 1 < w3.heap.size := by rw [← hw3]; simp
  have b3 : Below w2.heap.size w2 w3 := by rw [← hw3]; exact ((Below.refl _ w2).alloc (Nat.le_refl _) _).alloc (by simp) _
  have bL : Boxed w3 w2.heap.size 22 (.slice (some ⟨b, o, none⟩) l.length c) := by rw [← hw3]; exact (Boxed.new w2 _ _).alloc _
  have bS : Boxed w3 (w2.heap.size + 1) 3 (.int .i64 (m : Int)) := by
    have := Boxed.new (w2.alloc (.cells #[.slice (some ⟨b, o, none⟩) l.length c] 22)) 3 (.int .i64 (m : Int))
    rw [World.size_alloc] at this
    rw [← hw3]; exact this
  have bL3 : Boxed w3 w.heap.size 22 (.slice (some ⟨b, o, none⟩) l.length c) := (b3.block _ bL2.lt).trans bL2
  have bC3 : Boxed w3 (w.heap.size + 1) 23 (.slice pv C.length kv) := (b3.block _ bC2.lt).trans bC2
  have bX3 : Boxed w3 w1.heap.size 3 (.int .i64 (-1)) := (b3.block _ bX2.lt).trans bX2
  have B3 : Below w.heap.size w w3 := chain (chain B1.out b2) b3
  have l0 : w0.heap.size ≤ w.heap.size := hW.below.size
  have l1 : w.heap.size + 1 < w1.heap.size := bC1.lt
  have ALL := hide (list_opts hW.kind)
  have HIT := hide hW.iter
  have RNG := hide hW.rng
  have HRw := hide (fun W (hb : Below w.heap.size w W) => opRows_any l[m] (.slice pa l[m].attrs.length ca) pk nk ck W (N0.out.at_.below hb) nz.attrs)
  have PG := hide (last_ge C (listP l (m : Int)) (fun i hi => (list_in.2 i hi).1))
  have ESZ := hide (size_rows hW.kind)
  rw [Int.toNat_natCast, nd_at hm] at ESZ
  have PA : Hid (¬ lastP C (listP l (m : Int)) = -1 → pickP l C (m : Int) (listP l (m : Int)) = lastP C (listP l (m : Int))) := fun h => if_pos (by have := PG.out; omega)
  have PB : Hid (lastP C (listP l (m : Int)) = -1 → ¬ rowsN l[m] = 1 → pickP l C (m : Int) (listP l (m : Int)) = -1) := fun h g => by
    unfold pickP
    rw [if_neg (by rw [h]; decide), ESZ.out, if_neg g]
  have PC : Hid (lastP C (listP l (m : Int)) = -1 → rowsN l[m] = 1 → pickP l C (m : Int) (listP l (m : Int)) = ((listP l (m : Int)).find? fun i => !offP l i).getD (-1)) := fun h g => by
    unfold pickP
    rw [if_neg (by rw [h]; decide), ESZ.out, if_pos g]
  have OB : Hid (∀ g, (Value.slice pv C.length kv).ownBlock = some g → base ≤ g ∧ g < w.heap.size) := fun g hg => ⟨(hW.own.row.lt g hg).1, (hW.own.row.lt g hg).2⟩
  rw [hw3]
  clear hw2 hw3 y1 y2 HM b1 b2 b3 hW hs PG ESZ nz
  generalize hRN : rowsN l[m] = RN at *
  clear hRN
  refine wpIn_rangeFunc_ownG rfl (by omega) (gf := 48) (lb := #[.pointer (some ⟨w2.heap.size, 0, none⟩), .pointer (some ⟨w2.heap.size + 1, 0, none⟩)]) rfl trivial (enters_of Tryd.func48 (by kernel_rfl) rfl)
    (HIT.out w3 w2.heap.size (w2.heap.size + 1) (chain HW.out.below B3) bL bS) kpB_t (kpB_b (by omega) (by intro b q; simp at q; omega)) (Below.refl _ _) (fun _ => rfl)
    (fun (pre : List (OptA l (m : Int))) W => ((Boxed W w.heap.size 22 (.slice (some ⟨b, o, none⟩) l.length c) ∧ Boxed W (w.heap.size + 1) 23 (.slice pv C.length kv)) ∧ Boxed W w1.heap.size 3 (.int .i64 (lastP C (vals pre)))) ∧ Below w.heap.size w W)
    (fun _ _ _ => False)
    (OwnFrom.and (OwnFrom.and (OwnFrom.and (Own.from (boxed_own _ _ (fun _ => .slice (some ⟨b, o, none⟩) l.length c)) _) (Own.from (boxed_own _ _ (fun _ => .slice pv C.length kv)) _)) (Own.from (boxed_own _ _ (fun pre : List (OptA l (m : Int)) => .int .i64 (lastP C (vals pre)))) _)) (ownFrom_below (Nat.le_refl _) (by omega)))
    (fun _ _ _ _ _ hs _ _ => hs)
    ⟨⟨⟨bL3, bC3⟩, bX3⟩, B3⟩
    (fun x => { tmps := #[.slice (some ⟨b, o, none⟩) l.length c, .slice pv C.length kv, .int .i64 (m : Int), .pointer (some ⟨w.heap.size, 0, none⟩), .pointer (some ⟨w.heap.size + 1, 0, none⟩), undef, .pointer (some ⟨w1.heap.size, 0, none⟩), .int .i64 x.1, .slice (some ⟨b, o, none⟩) l.length c, .int .i64 (m : Int), .pointer (some ⟨b, o + m * 5, none⟩), .agg #[.string l[m].name, .string l[m].text, .slice pa l[m].attrs.length ca, .int .i64 l[m].parent, .slice pk nk ck], .bool false, .slice (some ⟨b, o, none⟩) l.length c, .int .i64 (m : Int), .func (.func 48) #[] #[.pointer (some ⟨w2.heap.size, 0, none⟩), .pointer (some ⟨w2.heap.size + 1, 0, none⟩)], .int .i64 x.1, undef, undef, undef, undef, undef, undef, undef, undef, undef, undef, undef, undef, undef, undef, undef, undef, undef, undef, undef, undef, undef, undef, undef, undef, undef, undef], defers := [] }) ?assign ?body ?done ?stop
  case assign =>
    intro y x W K hK
    gi_wp2
    exact hK
  case body =>
    rintro y pre x W ⟨⟨⟨hL, hC⟩, hX⟩, hB⟩ hlt
    have rx := RNG.out x.1 x.2
    obtain ⟨q, eq, hq⟩ : ∃ q : Nat, x.1 = (q : Int) ∧ q < C.length := ⟨x.1.toNat, by omega, by omega⟩
    have OWN := HW.out.own.kept hB
    obtain ⟨g, kv', ev, eg, hg0, hg1, _⟩ := owns_at OWN.row (by omega)
    cases ev
    have c6 : W.cell? ⟨g, q * 10 + 6, none⟩ = some (.bool C[q].sel) := OWN.at_ rfl hq 6 _ rfl
    have c1 := hC.cell
    have x1 := hX.cell
    have x2 := hX.frozen
    have q0 : (0 : Int) ≤ (q : Int) := by omega
    have q1 : (q : Int) < (C.length : Int) := by omega
    have EV := hide (show vals (pre ++ [x]) = vals pre ++ [(q : Int)] by rw [vals_app, eq])
    have LA := hide (show lastP C (vals (pre ++ [x])) = if C[q].sel = true then (q : Int) else lastP C (vals pre) by rw [EV.out, last_app, st_nat hq])
    rw [eq]
    clear OWN rx EV
    cases hsq : C[q].sel with
    | false =>
      rw [hsq, if_neg (by decide)] at LA
      rw [hsq] at c6
      gi_wp2
      exact ⟨KeepsFrom.refl _ _, ⟨Below.refl _ _, fun _ _ => rfl⟩, ⟨⟨⟨hL, hC⟩, by rw [LA.out]; exact hX⟩, hB⟩⟩
    | true =>
      rw [hsq, if_pos rfl] at LA
      rw [hsq] at c6
      gi_wp2
      refine ⟨(KeepsOthers.setCell _ _ _).from _, ⟨(Below.refl _ W).setCell (p := ⟨w1.heap.size, 0, none⟩) (by show w0.heap.size ≤ w1.heap.size; omega) _, fun b r => Below.heap_setCell _ _ _ _ ?_⟩, ⟨⟨⟨boxed_far hL (by omega), boxed_far hC (by omega)⟩, by rw [LA.out]; exact hX.set _⟩, hB.setCell (p := ⟨w1.heap.size, 0, none⟩) (by show w.heap.size ≤ w1.heap.size; omega) _⟩⟩
      simp only [List.mem_cons, List.not_mem_nil, or_false] at r
      rcases r with rfl | rfl
      · show w2.heap.size ≠ w1.heap.size; omega
      · show w2.heap.size + 1 ≠ w1.heap.size; omega
  case done =>
    rintro D ys W hD hys ⟨⟨⟨hL, hC⟩, hX⟩, hB⟩ hK
    rw [hys, ← ALL.out] at hX
    have hDl : D < W.heap.size := (List.getElem?_eq_some_iff.1 (by simpa using hK)).1
    have KD : Hid (∀ X X', X.heap[D]? = some (.deferred (some [])) → D < X.heap.size → Chg (Value.slice pv C.length kv).ownBlock.toList X X' → X'.heap[D]? = some (.deferred (some []))) := fun X X' h1 h2 h3 => (h3.block D h2 (fun r => by have := (OB.out D (opt_mem.1 r)).2; omega)).trans h1
    have CW : Hid (Chg (Value.slice pv C.length kv).ownBlock.toList w W) := (Chg.of_below hB).nil
    have y1 := hL.cell
    have y2 := hC.cell
    have y3 := hX.cell
    have WW := hide (HW.out.later hB)
    by_cases hl : lastP C (listP l (m : Int)) = -1
    · have z0 := cell_below N0.out.name hB
      have z1 := cell_below N0.out.text hB
      have z2 := cell_below N0.out.attrs hB
      have z3 := cell_below N0.out.parent hB
      have z4 := cell_below N0.out.kids hB
      rw [hl] at hX y3
      have HR := hide (HRw.out W hB)
      by_cases hr : RN = 1
      · subst hr
        have EP := hide (PC.out hl rfl)
        have HOn := hide (fun X L (hb : Below w.heap.size w X) => (HW.out.later hb).only L)
        clear PA PB PC HRw hl
        gi_wp2
        refine ⟨trivial, ?_⟩
        refine (callsIn_wide.2 HR.out).mono ?_
        rintro e w5 ⟨rfl, b5⟩
        have hL5 : Boxed w5 w.heap.size 22 (.slice (some ⟨b, o, none⟩) l.length c) := (b5.block _ hL.lt).trans hL
        have y5 := hL5.cell
        have hDl5 : D < w5.heap.size := Nat.lt_of_lt_of_le hDl b5.size
        have B5 := hide (chain hB b5)
        clear y1 y2 y3 z0 z1 z2 z3 z4
        gi_wp2
        refine ⟨trivial, ?_⟩
        refine (callsIn_wide.2 (options_any (some ⟨b, o, none⟩) l.length c (m : Int) _)).mono ?_
        rintro e w6 ⟨rfl, hw6⟩
        have b6 : Below w5.heap.size w5 w6 := by rw [hw6]; exact ((Below.refl _ w5).alloc (Nat.le_refl _) _).alloc (by simp) _
        have bL6 : Boxed w6 w5.heap.size 22 (.slice (some ⟨b, o, none⟩) l.length c) := by rw [hw6]; exact (Boxed.new w5 _ _).alloc _
        have bS6 : Boxed w6 (w5.heap.size + 1) 3 (.int .i64 (m : Int)) := by
          have := Boxed.new (w5.alloc (.cells #[.slice (some ⟨b, o, none⟩) l.length c] 22)) 3 (.int .i64 (m : Int))
          rw [World.size_alloc] at this
          rw [hw6]; exact this
        have hL6 : Boxed w6 w.heap.size 22 (.slice (some ⟨b, o, none⟩) l.length c) := (b6.block _ hL5.lt).trans hL5
        have B6 := hide (chain B5.out b6)
        have HF := hide (opFirst_any l (m : Int) (some ⟨b, o, none⟩) c w0 w6 w5.heap.size (w5.heap.size + 1) (fun x => !offP l x) 53 #[.pointer (some ⟨w.heap.size, 0, none⟩)] entersFix1 HIT.out (chain HW.out.below B6.out) bL6 bS6 (fun x hx W' hb' => opFix1_any l (m : Int) (some ⟨b, o, none⟩) c w0 W' w.heap.size x HW.out.nds HW.out.sz HW.out.tab HW.out.kind HW.out.right hx (chain (chain HW.out.below B6.out) hb') ((hb'.block _ hL6.lt).trans hL6)))
        rw [← ALL.out] at HF
        generalize ((listP l (m : Int)).find? fun i => !offP l i).getD (-1) = L at *
        clear hw6
        gi_wp2
        refine ⟨trivial, ?_⟩
        refine (callsIn_wide.2 HF.out).mono ?_
        rintro e w7 ⟨rfl, b7⟩
        have b57 := chain b6 b7
        have b07 := chain b5 b57
        have B7 := hide (chain hB b07)
        have hX7 : Boxed w7 w1.heap.size 3 (.int .i64 (-1)) := (b07.block _ hX.lt).trans hX
        have hL7 := boxed_far (k := 0) (u := .int .i64 L) ((b07.block _ hL.lt).trans hL : Boxed w7 w.heap.size _ _) (show w.heap.size ≠ w1.heap.size by omega)
        have hC7 := boxed_far (k := 0) (u := .int .i64 L) ((b07.block _ hC.lt).trans hC : Boxed w7 (w.heap.size + 1) _ _) (show w.heap.size + 1 ≠ w1.heap.size by omega)
        have t1 := hX7.cell
        have t2 := hX7.frozen
        have t3 := (hX7.set (.int .i64 L)).cell
        have t4 := hL7.cell
        have t5 := hC7.cell
        have B8 : Below w.heap.size w (w7.setCell ⟨w1.heap.size, 0, none⟩ (.int .i64 L)) := B7.out.setCell (p := ⟨w1.heap.size, 0, none⟩) (by show w.heap.size ≤ w1.heap.size; omega) _
        have HO := hide (HOn.out _ L B8)
        have hK7 : w7.heap[D]? = some (.deferred (some [])) := (b07.block D hDl).trans hK
        have hK8 := (KeepsOthers.setCell w7 ⟨w1.heap.size, 0, none⟩ (.int .i64 L)).same D _ hK7 rfl
        have hDl8 : D < (w7.setCell ⟨w1.heap.size, 0, none⟩ (.int .i64 L)).heap.size := (List.getElem?_eq_some_iff.1 (by simpa using hK8)).1
        gi_wp2
        refine ⟨trivial, ?_⟩
        refine (callsIn_wide.2 HO.out).mono ?_
        rintro e w4 ⟨rfl, o4, k4⟩
        have hK4 := KD.out _ _ hK8 hDl8 k4
        gi_wp2
        refine ⟨by simp, .inl ⟨_, _, rfl, run_takeDeferred hK4, ?_⟩⟩
        refine ⟨_, results_none rfl _ _ _, rfl, ?_⟩
        rw [EF.out, EP.out]
        exact work_end o4 (((Chg.of_below B8).nil).trans (k4.mono (fun _ r _ => r))) (by omega) hK4
      · have d1 : (RN == 1) = false := beq_eq_false_iff_ne.2 hr
        have EP := hide (PB.out hl hr)
        have HOn := hide (fun X (hb : Below w.heap.size w X) => (HW.out.later hb).only (-1))
        clear PA PB PC HRw hl hr
        gi_wp2
        refine ⟨trivial, ?_⟩
        refine (callsIn_wide.2 HR.out).mono ?_
        rintro e w5 ⟨rfl, b5⟩
        have hL5 : Boxed w5 w.heap.size 22 (.slice (some ⟨b, o, none⟩) l.length c) := (b5.block _ hL.lt).trans hL
        have hC5 : Boxed w5 (w.heap.size + 1) 23 (.slice pv C.length kv) := (b5.block _ hC.lt).trans hC
        have hX5 : Boxed w5 w1.heap.size 3 (.int .i64 (-1)) := (b5.block _ hX.lt).trans hX
        have t3 := hX5.cell
        have t4 := hL5.cell
        have t5 := hC5.cell
        have hDl5 : D < w5.heap.size := Nat.lt_of_lt_of_le hDl b5.size
        have hK5 : w5.heap[D]? = some (.deferred (some [])) := (b5.block D hDl).trans hK
        have B5 := hide (chain hB b5)
        have HO := hide (HOn.out _ B5.out)
        clear y1 y2 y3 z0 z1 z2 z3 z4
        gi_wp2
        refine ⟨trivial, ?_⟩
        refine (callsIn_wide.2 HO.out).mono ?_
        rintro e w4 ⟨rfl, o4, k4⟩
        have hK4 := KD.out _ _ hK5 hDl5 k4
        gi_wp2
        refine ⟨by simp, .inl ⟨_, _, rfl, run_takeDeferred hK4, ?_⟩⟩
        refine ⟨_, results_none rfl _ _ _, rfl, ?_⟩
        rw [EF.out, EP.out]
        exact work_end o4 (((Chg.of_below B5.out).nil).trans (k4.mono (fun _ r _ => r))) (by omega) hK4
    · have d1 : (lastP C (listP l (m : Int)) == -1) = false := beq_eq_false_iff_ne.2 hl
      have EP := hide (PA.out hl)
      have HO := hide (WW.out.only (lastP C (listP l (m : Int))))
      clear PA PB PC HRw hl
      generalize lastP C (listP l (m : Int)) = L at *
      gi_wp2
      refine ⟨trivial, ?_⟩
      gi_wp2
      refine ⟨trivial, ?_⟩
      refine (callsIn_wide.2 HO.out).mono ?_
      rintro e w4 ⟨rfl, o4, k4⟩
      have hK4 := KD.out _ _ hK hDl k4
      gi_wp2
      refine ⟨by simp, .inl ⟨_, _, rfl, run_takeDeferred hK4, ?_⟩⟩
      refine ⟨_, results_none rfl _ _ _, rfl, ?_⟩
      rw [EF.out, EP.out]
      exact work_end o4 (CW.out.trans (k4.mono (fun _ r _ => r))) (by omega) hK4
  case stop =>
    rintro D d pre W _ _ h _
    exact h.elim
theorem opFixIn_any (l : List Nd) (sel : Int) (p : Option Addr) (c base : Nat) (cv : Value) (C : List Ct) (F : List Value) (w0 w : World) (hW : Wrk l sel p c base cv C F w0 w) :
    Calls Tryd.prog 37 #[.slice p l.length c, cv, .int .i64 sel] w fun e w' => e = .returned (.tuple #[]) ∧ CtsO base w' cv (fixP l C sel) F ∧ Chg cv.ownBlock.toList w w' := by
  cases h : hasA (nd l sel.toNat) oMul with
  | true => exact opFixIn_mul l sel p c base cv C F w0 w hW h
  | false => exact opFixIn_one l sel p c base cv C F w0 w hW h
end Go.Proofs.YtemikdmkjgmflaaDoor

namespace Go.Proofs.YtemikdmkjgmflaaDoor
open Go.RowKit Go.Shelf
set_option maxRecDepth 100000
/-- What a change of a select's states comes to. -/
def chgO (l : List Nd) (C : List Ct) (sel : Int) (C' : List Ct) : List Ct := if rightD l C = true then (if isK l sel 23 = true then C' else C) else []
theorem rd_parts {l : List Nd} {C : List Ct} (h : rightD l C = true) : Right l ∧ C.length = l.length := by
  unfold rightD at h
  rw [Bool.and_eq_true, decide_eq_true_eq] at h
  exact ⟨right_is.1 h.1, by have := h.2; omega⟩
theorem isA_right {l : List Nd} {sel k : Int} (hR : Right l) : isAB l sel k = isK l sel k := by rw [← isA_K, right_is.2 hR, Bool.and_true]
set_option maxHeartbeats 8000000 in
theorem opChanged_any (nv cv : Value) (l : List Nd) (C C' : List Ct) (sel : Int) (g : Nat) (lb : Array Value) (eg : ∀ args w, (callFunc g args).run Tryd.prog w = .ok (.enter g args) w) (w : World) (hD : DocV w nv cv l C) (hz : DocSz l) (hC : CsOK C) (hT : KTabs w)
    (HP : ∀ (p : Option Addr) (c base : Nat) (ov : Value) (F : List Value) (W : World), nv = .slice p l.length c → Wrk l sel p c base ov C F w W → Calls Tryd.prog g (#[nv, ov, .int .i64 sel] ++ lb) W fun e w' => e = .returned (.tuple #[]) ∧ CtsO base w' ov C' F ∧ Chg ov.ownBlock.toList W w') (hl : C'.length = C.length) (hf : ∀ i (h1 : i < C.length) (h2 : i < C'.length), C'[i].files = C[i].files) :
    Calls Tryd.prog 34 #[.agg #[nv, cv], .int .i64 sel, .func (.func g) #[] lb] w fun e w' => ∃ v', e = .returned v' ∧ CtsV w' v' (chgO l C sel C') ∧ Below w.heap.size w w' := by
  have B0 : Hid (Below w.heap.size w (w.alloc (.cells #[nv, cv] 25))) := (Below.refl _ w).alloc (Nat.le_refl _) _
  have BD := hide (Bk.new w [nv, cv] 25)
  have HR := hide (opRightG_any nv cv l C (w.alloc (.cells #[nv, cv] 25)) (hD.below B0.out) hz)
  have HFr := hide (fun W (hb : Below w.heap.size w W) => freshCtls_any cv C W (hD.cts.below hb) hC)
  have HA := hide (fun W (hb : Below w.heap.size w W) => opIsA_any nv l sel 23 W (hD.nds.below hb) hz (hT.below hb))
  have HN := hide hD.nds
  have HPP := hide HP
  have HL := hide hl
  have HFi := hide hf
  obtain ⟨p, c, rfl⟩ := nds_formG hD.nds
  obtain ⟨pc, cc, rfl⟩ := cts_formG hD.cts
  clear HP hD hl hf hC
  cases r : rightD l C with
  | false =>
    have E : Hid (chgO l C sel C' = []) := by show _ = _; unfold chgO; rw [r]; rfl
    rw [r] at HR
    clear HFr HA HN HPP HL HFi
    go_enter Tryd.func34, Tryd.ntmps34
    go_wp2_with fail
    refine HR.out.mono ?_
    rintro e w1 ⟨rfl, b1⟩
    go_wp2_with fail
    go_ret
    exact ⟨_, rfl, by rw [E.out]; exact cts_nil _, chain B0.out b1⟩
  | true =>
    obtain ⟨hR, hlen⟩ := rd_parts r
    rw [r] at HR
    cases k : isK l sel 23 with
    | false =>
      have E : Hid (chgO l C sel C' = C) := by show _ = _; unfold chgO; rw [r, k]; rfl
      rw [isA_right hR, k] at HA
      clear HPP HL HFi hlen hR k r
      go_enter Tryd.func34, Tryd.ntmps34
      go_wp2_with fail
      refine HR.out.mono ?_
      rintro e w1 ⟨rfl, b1⟩
      have D1 := hide (BD.out.below b1)
      have B1 := hide (chain B0.out b1)
      have x1 := D1.out.cell 1 rfl
      go_wp2_with fail
      refine (HFr.out _ B1.out).mono ?_
      rintro e w2 ⟨ov, F, rfl, o2, f2, b2⟩
      obtain ⟨po, ko, rfl, _⟩ := o2.form
      have D2 := hide (D1.out.below b2)
      have B2 := hide (chain B1.out b2)
      have x0 := D2.out.cell 0 rfl
      have O2 := hide o2
      have F2 := hide f2
      clear o2 f2
      go_wp2_with fail
      refine (HA.out _ B2.out).mono ?_
      rintro e w3 ⟨rfl, b3⟩
      go_wp2_with fail
      go_ret
      exact ⟨_, rfl, by rw [E.out]; exact (O2.out.kept b3).cts (F2.out.below b3).files, chain B2.out b3⟩
    | true =>
      have E : Hid (chgO l C sel C' = C') := by show _ = _; unfold chgO; rw [r, k]; rfl
      have HT := hide hT
      have HZ := hide hz
      have HK := hide k
      have HRt := hide hR
      have HLn := hide hlen
      rw [isA_right hR, k] at HA
      clear hT hz k hR hlen r
      go_enter Tryd.func34, Tryd.ntmps34
      go_wp2_with fail
      refine HR.out.mono ?_
      rintro e w1 ⟨rfl, b1⟩
      have D1 := hide (BD.out.below b1)
      have B1 := hide (chain B0.out b1)
      have x1 := D1.out.cell 1 rfl
      go_wp2_with fail
      refine (HFr.out _ B1.out).mono ?_
      rintro e w2 ⟨ov, F, rfl, o2, f2, b2⟩
      obtain ⟨po, ko, rfl, _⟩ := o2.form
      have D2 := hide (D1.out.below b2)
      have B2 := hide (chain B1.out b2)
      have x0 := D2.out.cell 0 rfl
      have O2 := hide o2
      have F2 := hide f2
      clear o2 f2
      go_wp2_with fail
      refine (HA.out _ B2.out).mono ?_
      rintro e w3 ⟨rfl, b3⟩
      have D3 := hide (D2.out.below b3)
      have B3 := hide (chain B2.out b3)
      have x3 := D3.out.cell 0 rfl
      have O3 := hide (O2.out.kept b3)
      have F3 := hide (F2.out.below b3)
      have WK : Wrk l sel p c w1.heap.size (.slice po C.length ko) C F w w3 := ⟨HN.out, HZ.out, HT.out, HK.out, HRt.out, B3.out, B1.out.size, O3.out, HLn.out⟩
      have HG := hide (HPP.out p c w1.heap.size (.slice po C.length ko) F w3 rfl WK)
      clear WK HPP
      go_wp2_with fail
      refine HG.out.mono ?_
      rintro e w4 ⟨rfl, o4, k4⟩
      have B4 : Below w.heap.size w w4 := B3.out.trans (k4.below B3.out.size (fun j hj => Nat.le_trans B1.out.size ((O3.out.row.lt j (opt_mem.1 hj)).1)))
      have F4 : FilesIn w4 C' F := ((F3.out.chg O3.out.row k4).files).other HL.out (fun i h1 h2 => HFi.out i h1 h2)
      have Z4 := hide (o4.cts F4)
      clear o4 k4 F4
      go_wp2_with fail
      go_ret
      exact ⟨_, rfl, by rw [E.out]; exact Z4.out, B4⟩
theorem fixO_chg {l : List Nd} {C : List Ct} {sel : Int} : chgO l C sel (fixP l C sel) = fixO l C sel := by
  unfold chgO fixO
  split
  · split
    · rfl
    · rename_i h
      exact (if_neg (fun t => h t.1)).symm
  · rfl
theorem only_files (C : List Ct) (all : List Int) (p : Int) : (onlyP C all p).length = C.length ∧ ∀ i (h1 : i < C.length) (h2 : i < (onlyP C all p).length), (onlyP C all p)[i].files = C[i].files := by
  refine ⟨updC_len .., fun i h1 h2 => ?_⟩
  exact (congrArg Ct.files (upd_at (f := onlyF p) (all := all) (C := C) h1)).trans (by split <;> rfl)
theorem fixP_files (l : List Nd) (C : List Ct) (sel : Int) : (fixP l C sel).length = C.length ∧ ∀ i (h1 : i < C.length) (h2 : i < (fixP l C sel).length), (fixP l C sel)[i].files = C[i].files := by
  unfold fixP
  split
  · exact only_files ..
  · exact ⟨rfl, fun i _ _ => rfl⟩
theorem entersFix : ∀ args w, (callFunc 37 args).run Tryd.prog w = .ok (.enter 37 args) w := Go.Proofs.enters_of Tryd.func37 (by kernel_rfl) rfl
set_option maxHeartbeats 8000000 in
theorem opFix_any (nv cv : Value) (l : List Nd) (C : List Ct) (sel : Int) (w : World) (hD : DocV w nv cv l C) (hz : DocSz l) (hC : CsOK C) (hT : KTabs w) :
    Calls Tryd.prog 13 #[.agg #[nv, cv], .int .i64 sel] w fun e w' => ∃ v', e = .returned v' ∧ CtsV w' v' (fixO l C sel) ∧ Below w.heap.size w w' := by
  have B0 : Hid (Below w.heap.size w (w.alloc (.cells #[nv, cv] 25))) := (Below.refl _ w).alloc (Nat.le_refl _) _
  have HC := hide (opChanged_any nv cv l C (fixP l C sel) sel 37 #[] entersFix (w.alloc (.cells #[nv, cv] 25)) (hD.below B0.out) hz hC (hT.below B0.out) (fun p c base ov F W e hW => by
    subst e
    exact opFixIn_any l sel p c base ov C F _ W hW) (fixP_files l C sel).1 (fixP_files l C sel).2)
  rw [fixO_chg] at HC
  obtain ⟨p, c, rfl⟩ := nds_formG hD.nds
  obtain ⟨pc, cc, rfl⟩ := cts_formG hD.cts
  clear hD hz hC hT
  go_enter Tryd.func13, Tryd.ntmps13
  go_wp2_with fail
  refine HC.out.mono ?_
  rintro e w1 ⟨v1, rfl, c1, b1⟩
  go_wp2_with fail
  go_ret
  exact ⟨_, rfl, c1, chain B0.out b1⟩

end Go.Proofs.YtemikdmkjgmflaaDoor
