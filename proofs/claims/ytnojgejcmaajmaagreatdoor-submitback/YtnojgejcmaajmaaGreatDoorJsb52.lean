/- Stage 24's wakes and its laws SubmitSettings, SubmitQueries, SubmitEnters, walked. Sizes of parts. What a plan tells and how it is read back. Stage 24's law SubmitBack, walked. -/
import Derived.Test.YtnojgejcmaajmaaGreatDoorJsb29
import Derived.Test.YtnojgejcmaajmaaGreatDoorJsb32
import Derived.Test.YtnojgejcmaajmaaGreatDoorJsb33
import Derived.Test.YtnojgejcmaajmaaGreatDoorJsb50

namespace Go.Proofs.YtnojgejcmaajmaaGreatDoor
open Go.RowKit
set_option maxRecDepth 100000
theorem fst_app {c : UInt8} {l r : List UInt8} (h : c ∉ l) : fst8 c (l ++ r) = l.length + fst8 c r := by
  induction l with
  | nil => rw [List.nil_append, List.length_nil, Nat.zero_add]
  | cons a t ih =>
    unfold fst8 at ih ⊢
    rw [List.cons_append, List.takeWhile_cons_of_pos (by
      have : ¬ a = c := fun e => h (by rw [e]; exact List.mem_cons_self)
      simp [this]), List.length_cons, ih (fun q => h (List.mem_cons_of_mem _ q)), List.length_cons]
    omega
theorem fst_not {c : UInt8} {l : List UInt8} : c ∉ l.take (fst8 c l) := by
  unfold fst8
  rw [← List.prefix_iff_eq_take.1 (List.takeWhile_prefix _)]
  intro q
  have := List.all_eq_true.1 (List.all_takeWhile (l := l)) c q
  simp at this
theorem fst_drop {c : UInt8} {l : List UInt8} : fst8 c (l.drop (fst8 c l)) = 0 := by
  induction l with
  | nil => rfl
  | cons a t ih =>
    by_cases h : a = c
    · have e : fst8 c (a :: t) = 0 := by unfold fst8; rw [List.takeWhile_cons_of_neg (by simp [h])]; rfl
      rw [e, List.drop_zero, e]
    · have e : fst8 c (a :: t) = fst8 c t + 1 := by unfold fst8; rw [List.takeWhile_cons_of_pos (by simp [h])]; rfl
      rw [e, List.drop_succ_cons, ih]
theorem qry_size (a q : List UInt8) : (qryL a q).length ≤ a.length + q.length + 1 + a.length := by
  unfold qryL
  rw [List.length_append, List.length_append, List.length_cons]
  have h1 := List.length_take_le (fst8 63 (a.take (fst8 35 a))) (a.take (fst8 35 a))
  have h2 : (a.take (fst8 35 a)).length ≤ a.length := by rw [List.length_take]; omega
  have h3 : ((a.take (fst8 35 a)).take (fst8 63 (a.take (fst8 35 a)))).length ≤ (a.take (fst8 35 a)).length := by rw [List.length_take]; omega
  have h4 : (a.drop (fst8 35 a)).length ≤ a.length := by rw [List.length_drop]; omega
  omega
end Go.Proofs.YtnojgejcmaajmaaGreatDoor

namespace Go.Proofs.YtnojgejcmaajmaaGreatDoor
open Go.RowKit
theorem told_n (l : List En) : (l.map toldE).length = l.length := List.length_map ..
theorem encT_size {l : List En} {b : ByteArray} (h : EnsOK 2000 l) (hl : l.length ≤ 60) (hb : b.size ≤ 1000) : (encT20 l b).size ≤ 16777216 := by
  unfold encT20
  split
  · show (encP l (bL b)).length ≤ _
    have A : ∀ m : List En, (∀ e ∈ m, EnZ 2000 e) → (m.flatMap fun e => fstL (bL b) ++ partL e ++ [13, 10]).length ≤ m.length * 34000 := by
      intro m
      induction m with
      | nil => intro _; simp
      | cons e m ih =>
        intro hm
        have i1 := ih (fun x hx => hm x (List.mem_cons_of_mem _ hx))
        have i2 := part_size (hm e List.mem_cons_self)
        have i3 : (fstL (bL b)).length = (bL b).length + 4 := by unfold fstL; simp
        have i4 : (e :: m).length * 34000 = m.length * 34000 + 1 * 34000 := Nat.add_mul _ _ _
        rw [List.flatMap_cons, List.length_append, List.length_append, List.length_append, i3, i4, len_bL]
        show _ + 2 + _ ≤ _
        omega
    have h1 := A l (fun e he => h.ent e he)
    have h3 : l.length * 34000 ≤ 60 * 34000 := Nat.mul_le_mul_right _ hl
    unfold encP endL
    rw [List.length_append, List.length_cons, List.length_cons, List.length_append, len_bL]
    show _ + (b.size + 4 + 1 + 1) ≤ _
    omega
  · decide
end Go.Proofs.YtnojgejcmaajmaaGreatDoor

namespace Go.Proofs.YtnojgejcmaajmaaGreatDoor
open Go.RowKit
/-- The five ways of a plan. -/
theorem mak_ways (l : List Nd) (C : List Ct) (form sub : Int) (es : List En) (ds : List ByteArray) :
    ((makP l C form sub es ds).1 = pl0 ∧ (makP l C form sub es ds).2 ≠ 0) ∨
    ((makP l C form sub es ds).1 = getP l form sub es ∧ (makP l C form sub es ds).2 = 0) ∨
    ((makP l C form sub es ds).1 = diaP l C form sub ∧ (makP l C form sub es ds).2 = 0) ∨
    (∃ b, b ∈ ds ∧ clrL es (bL b) = true ∧ (makP l C form sub es ds).1 = ⟨sPost, actP l form sub, tarP l form sub, encT20 es b, mY ++ b⟩ ∧ (makP l C form sub es ds).2 = 0) ∨
    ((makP l C form sub es ds).1 = ⟨sPost, actP l form sub, tarP l form sub, urlS es, uY⟩ ∧ (makP l C form sub es ds).2 = 0) ∨
    ((makP l C form sub es ds).1 = ⟨sPost, actP l form sub, tarP l form sub, txt (encN es), tY⟩ ∧ (makP l C form sub es ds).2 = 0) := by
  unfold makP
  split
  · exact .inl ⟨rfl, by decide⟩
  · rename_i h
    have hh : hasN l form = true := by
      cases e : hasN l form with
      | true => rfl
      | false => exact absurd (.inr e) h
    split
    · exact .inl ⟨rfl, by decide⟩
    · split
      · exact .inr (.inl ⟨rfl, rfl⟩)
      · split
        · exact .inr (.inr (.inl ⟨rfl, rfl⟩))
        · split
          · rename_i hk
            cases hc : chsP es ds with
            | none => exact .inl ⟨rfl, by show (10 : Int) ≠ 0; decide⟩
            | some b =>
              refine .inr (.inr (.inr (.inl ⟨b, (chs_mem hc).1, (chs_mem hc).2, ?_, rfl⟩)))
              show posP l form sub es b = _
              unfold posP
              rw [hk]
              unfold bodT bodY
              rw [if_neg (by decide), if_pos rfl, if_neg (by decide), if_pos rfl, if_pos (chs_mem hc).2]
          · rename_i hk
            rcases kn_is (sub := sub) hh with k | k | k
            · refine .inr (.inr (.inr (.inr (.inl ⟨?_, rfl⟩))))
              show posP l form sub es ⟨#[]⟩ = _
              unfold posP
              rw [k]
              rfl
            · exact absurd k hk
            · refine .inr (.inr (.inr (.inr (.inr ⟨?_, rfl⟩))))
              show posP l form sub es ⟨#[]⟩ = _
              unfold posP
              rw [k]
              rfl
/-- The first place of a byte at or behind k, ahead of m; else m. -/
def fsB (c : UInt8) (s : ByteArray) (m k : Nat) : Nat := k + fst8 c (((bL s).take m).drop k)
theorem fsB_end {c : UInt8} {s : ByteArray} {m : Nat} : fsB c s m m = m := by
  unfold fsB fst8
  rw [List.drop_eq_nil_of_le (by rw [List.length_take]; omega)]
  rfl
theorem fsB_hit {c : UInt8} {s : ByteArray} {m k : Nat} (h : k < m) (g : m ≤ s.size) (hk : k < s.size) (e : s[k] = c) : fsB c s m k = k := by
  unfold fsB fst8
  have hl : k < ((bL s).take m).length := by rw [List.length_take, len_bL]; omega
  rw [List.drop_eq_getElem_cons hl, List.takeWhile_cons_of_neg (by rw [List.getElem_take, at_bL hk, e]; simp)]
  rfl
theorem fsB_miss {c : UInt8} {s : ByteArray} {m k : Nat} (h : k < m) (g : m ≤ s.size) (hk : k < s.size) (e : ¬ s[k] = c) : fsB c s m k = fsB c s m (k + 1) := by
  unfold fsB fst8
  have hl : k < ((bL s).take m).length := by rw [List.length_take, len_bL]; omega
  rw [List.drop_eq_getElem_cons hl, List.takeWhile_cons_of_pos (by rw [List.getElem_take, at_bL hk]; simpa using e), List.length_cons]
  omega
theorem fsB_all {c : UInt8} {s : ByteArray} {m : Nat} : fsB c s m 0 = fst8 c ((bL s).take m) := by unfold fsB; rw [Nat.zero_add, List.drop_zero]
theorem enc_35 (es : List En) : (35 : UInt8) ∉ encU es := fun h => by
  have := signs_u es 35 h
  exact absurd this (by decide)
/-- A query, found again by looking for the first # and the first ? ahead of it. -/
theorem qry_found (a : ByteArray) (es : List En) : ∃ X T : Nat, fsB 35 (txt (qryL (bL a) (encU es))) (txt (qryL (bL a) (encU es))).size 0 = T ∧ fsB 63 (txt (qryL (bL a) (encU es))) T 0 = X ∧ X < T ∧ T ≤ (txt (qryL (bL a) (encU es))).size ∧ (txt (qryL (bL a) (encU es))).extract (X + 1) T = urlS es := by
  have h35 := enc_35 es
  have n1 : (35 : UInt8) ∉ (bL a).take (fst8 35 (bL a)) := fst_not
  have n2 : (63 : UInt8) ∉ ((bL a).take (fst8 35 (bL a))).take (fst8 63 ((bL a).take (fst8 35 (bL a)))) := fst_not
  have n3 : fst8 35 ((bL a).drop (fst8 35 (bL a))) = 0 := fst_drop
  have n4 : (35 : UInt8) ∉ ((bL a).take (fst8 35 (bL a))).take (fst8 63 ((bL a).take (fst8 35 (bL a)))) := fun t => n1 (List.mem_of_mem_take t)
  have E : qryL (bL a) (encU es) = ((bL a).take (fst8 35 (bL a))).take (fst8 63 ((bL a).take (fst8 35 (bL a)))) ++ (63 :: encU es) ++ (bL a).drop (fst8 35 (bL a)) := rfl
  have U : urlS es = txt (encU es) := rfl
  rw [E, U]
  generalize ((bL a).take (fst8 35 (bL a))).take (fst8 63 ((bL a).take (fst8 35 (bL a)))) = x at *
  generalize (bL a).drop (fst8 35 (bL a)) = z at *
  generalize encU es = q at *
  have S : (txt (x ++ (63 :: q) ++ z)).size = (x ++ (63 :: q) ++ z).length := rfl
  have B : bL (txt (x ++ (63 :: q) ++ z)) = x ++ (63 :: q) ++ z := rfl
  have f1 : fst8 35 (x ++ (63 :: q) ++ z) = (x ++ (63 :: q)).length := by
    rw [fst_app (l := x ++ (63 :: q)) (fun t => by
      rcases List.mem_append.1 t with t | t
      · exact n4 t
      · rcases List.mem_cons.1 t with t | t
        · cases t
        · exact h35 t), n3, Nat.add_zero]
  have f2 : (x ++ (63 :: q) ++ z).take (x ++ (63 :: q)).length = x ++ (63 :: q) := List.take_left' rfl
  have f3 : fst8 63 (x ++ (63 :: q)) = x.length := by
    rw [fst_app n2]
    show x.length + 0 = _
    omega
  refine ⟨x.length, (x ++ (63 :: q)).length, ?_, ?_, by rw [List.length_append, List.length_cons]; omega, by rw [S, List.length_append (bs := z)]; omega, ?_⟩
  · rw [fsB_all, S, B, List.take_length, f1]
  · rw [fsB_all, B, f2, f3]
  · show ByteArray.extract _ _ _ = _
    apply ByteArray.ext
    apply Array.toList_inj.1
    rw [ByteArray.data_extract, Array.toList_extract]
    show List.extract (x ++ (63 :: q) ++ z) _ _ = q
    rw [List.extract_eq_take_drop, List.append_assoc, List.length_append, List.length_cons]
    have d : (x ++ (63 :: q ++ z)).drop (x.length + 1) = q ++ z := by
      rw [← List.drop_drop, List.drop_left' rfl]
      rfl
    rw [d]
    exact List.take_left' (by omega)
theorem my_first (b : ByteArray) : (mY ++ b).extract 0 30 = mY := by
  apply ByteArray.ext
  apply Array.toList_inj.1
  rw [ByteArray.data_extract, Array.toList_extract, ByteArray.data_append, Array.toList_append, List.extract_eq_take_drop, List.drop_zero]
  exact List.take_left' rfl
theorem my_size (b : ByteArray) : (mY ++ b).size = 30 + b.size := by rw [ByteArray.size_append]; rfl
theorem my_rest (b : ByteArray) : (mY ++ b).extract 30 (mY ++ b).size = b := by
  apply ByteArray.ext
  apply Array.toList_inj.1
  rw [my_size, ByteArray.data_extract, Array.toList_extract, ByteArray.data_append, Array.toList_append, List.extract_eq_take_drop]
  have d : List.drop 30 (mY.data.toList ++ b.data.toList) = b.data.toList := List.drop_left' rfl
  rw [d]
  have : b.data.toList.length = b.size := by simp
  exact List.take_of_length_le (by omega)
theorem my_not (b : ByteArray) : ((mY ++ b).toList == [97, 112, 112, 108, 105, 99, 97, 116, 105, 111, 110, 47, 120, 45, 119, 119, 119, 45, 102, 111, 114, 109, 45, 117, 114, 108, 101, 110, 99, 111, 100, 101, 100]) = false := by
  rw [ByteArray.toList_eq, ByteArray.data_append, Array.toList_append]
  rfl
theorem clr_some {es : List En} {b : ByteArray} (h : clrL es (bL b) = true) : 0 < b.size := by
  unfold clrL fitL at h
  rw [Bool.and_eq_true, Bool.and_eq_true] at h
  have := (of_decide_eq_true h.1.2).1
  rw [len_bL] at this; exact this
end Go.Proofs.YtnojgejcmaajmaaGreatDoor

namespace Go.Proofs.YtnojgejcmaajmaaGreatDoor
open Go.RowKit
set_option maxRecDepth 100000
theorem low_two {v : Value} (j : Nat) (h : v = .int .i64 ((j : Int) - 1)) : (j = 0 ∧ v = .int .i64 (-1)) ∨ ∃ i : Nat, j = i + 1 ∧ v = .int .i64 (i : Int) := by
  subst h
  cases j with
  | zero => exact .inl ⟨rfl, rfl⟩
  | succ i => exact .inr ⟨i, rfl, by rw [show ((i + 1 : Nat) : Int) - 1 = (i : Int) by omega]⟩
theorem plain_nS (l : List En) : (plainU l).length = l.length := by unfold plainU; rw [List.length_map]
theorem ur_sizeS {l : List En} (h : EnsOK 2000 l) : (urlS l).size ≤ 16777216 := by
  have := encU_len h
  have e : (urlS l).size = (encU l).length := rfl
  omega
theorem act_size {l : List Nd} {form sub : Int} (hz : DocSz l) : (actP l form sub).size ≤ 140737488351232 := by
  unfold actP
  by_cases h : form.toNat < l.length
  · have := set_size hz h sub sAcO sAc
    unfold setP_SubP at this ⊢
    rw [Int.toNat_natCast] at this
    exact this
  · unfold setP_SubP
    split
    · rename_i q
      rw [Bool.and_eq_true] at q
      obtain ⟨k, rfl, hk⟩ := fires_in q.1
      rw [Int.toNat_natCast, nd_at hk]
      exact fnd_lenS (hz.nds _ (List.getElem_mem hk)).tx _
    · rw [show nd l form.toNat = nd [] 0 by unfold nd; simp [List.getD, List.getElem?_eq_none (Nat.not_lt.1 h)]]
      decide
theorem ac_size {l : List Nd} {form sub : Int} {es : List En} (hz : DocSz l) (h : EnsOK 2000 es) : (getP l form sub es).ac.size ≤ 562949953421312 := by
  show (qryL _ _).length ≤ _
  have h1 := qry_size (bL (actP l form sub)) (encU es)
  have h2 := encU_len h
  rw [len_bL] at h1
  have h3 : (actP l form sub).size ≤ 140737488351232 := act_size hz
  omega
theorem sbBack_parts (es : List En) (b : ByteArray) (w : World) (hok : EnsOK 2000 es) (l60 : es.length ≤ 60) (hb : b.size ≤ 500) (hc : clrL es (bL b) = true) (hT : SbTabs w) :
    Calls Tryz.prog 14 #[.string (encT20 es b), .string b] w fun e w' => ∃ v', e = .returned (.tuple #[v', .int .i64 0]) ∧ FilesV w' v' (es.map toldE) ∧ Below w.heap.size w w' := by
  have HD := sbDecP_any (encT20 es b) b w (encT_size hok l60 (by omega)) (by omega) hT
  have EB : decP (bL (encT20 es b)) (bL b) = some (es.map toldE) := by
    have : bL (encT20 es b) = encP es (bL b) := by unfold encT20; rw [if_pos hc]; rfl
    rw [this]; exact back_p hc
  rw [EB] at HD
  exact HD
structure MkB (wz W : World) (l : List Nd) (C : List Ct) (pv : List Value) (pe : Int) (d1 d9 d10 d11 d12 d13 d14 d15 : Bool) (x1 x9 x10 x11 x12 x13 x15 : Value) : Prop where
  bel : Below wz.heap.size wz W
  f1 : d1 = true → d9 = false → ∃ nv cv, x1 = .agg #[nv, cv] ∧ DocV W nv cv l C
  f9 : d9 = true → x9 = .tuple #[.agg pv.toArray, .int .i64 pe]
  f10 : d10 = true → x10 = .tuple #[.agg pv.toArray, .int .i64 pe]
  f11 : d11 = true → x11 = .agg pv.toArray
  f12 : d12 = true → x12 = .int .i64 pe
  f13 : d13 = true → ∃ E : Nat, wz.heap.size ≤ E ∧ x13 = .pointer (some ⟨E, 0, none⟩) ∧ Bk W E (if d14 = true then pv else [.string ⟨#[]⟩, .string ⟨#[]⟩, .string ⟨#[]⟩, .string ⟨#[]⟩, .string ⟨#[]⟩]) 33
  f15 : d15 = true → x15 = .int .i64 pe
  s14 : d14 = true → d13 = true
theorem MkB.below {wz W W' : World} {l : List Nd} {C : List Ct} {pv : List Value} {pe : Int} {d1 d9 d10 d11 d12 d13 d14 d15 : Bool} {x1 x9 x10 x11 x12 x13 x15 : Value} (h : MkB wz W l C pv pe d1 d9 d10 d11 d12 d13 d14 d15 x1 x9 x10 x11 x12 x13 x15) (b : Below W.heap.size W W') : MkB wz W' l C pv pe d1 d9 d10 d11 d12 d13 d14 d15 x1 x9 x10 x11 x12 x13 x15 :=
  { bel := chain h.bel b
    f1 := fun t u => by obtain ⟨nv, cv, e, D⟩ := h.f1 t u; exact ⟨nv, cv, e, D.below b⟩
    f9 := h.f9
    f10 := h.f10
    f11 := h.f11
    f12 := h.f12
    f13 := fun t => by obtain ⟨E, g, e, D⟩ := h.f13 t; exact ⟨E, g, e, D.below b⟩
    f15 := h.f15
    s14 := h.s14 }
set_option maxHeartbeats 8000000 in
theorem submitBack_walk (nv cv v dv : Value) (l : List Nd) (C : List Ct) (form sub : Int) (es : List En) (ds : List ByteArray) (w : World) (hD : DocV w nv cv l C) (hz : DocSz l) (hC : CsOK C) (hv : FilesV w v es) (hf : es.length ≤ 4398046511104) (hd : DrawsV w dv ds) (h16 : ds.length * 16 ≤ 140737488355328) (hzd : ∀ d ∈ ds, d.size ≤ maxLen) (hT : SbTabs w) :
    Calls Tryz.prog 4 #[.agg #[nv, cv], .agg #[.int .i64 form, .int .i64 sub, dv], v] w fun e w' => e = .returned (.bool true) ∧ Below w.heap.size w w' := by
  have DV := hide hd
  have FV := hide hv
  have DD := hide hD
  have B0 : Hid (Below w.heap.size w ((w.alloc (.cells #[nv, cv] 25)).alloc (.cells #[.int .i64 form, .int .i64 sub, dv] 28))) := ((Below.refl _ w).alloc (Nat.le_refl _) _).alloc ((Below.refl _ w).alloc (Nat.le_refl _) (.cells #[nv, cv] 25)).size _
  have ND := hide ((Bk.new w [nv, cv] 25).below ((Below.refl _ (w.alloc (.cells #[nv, cv] 25))).alloc (Nat.le_refl _) (.cells #[.int .i64 form, .int .i64 sub, dv] 28)))
  have NA : Hid (Bk ((w.alloc (.cells #[nv, cv] 25)).alloc (.cells #[.int .i64 form, .int .i64 sub, dv] 28)) (w.heap.size + 1) [.int .i64 form, .int .i64 sub, dv] 28) := Bk.at' (bk_next rfl)
  have HW := hide (fun W (hb : Below w.heap.size w W) => sbWakes_any W (hT.below hb).mx)
  have HLo := hide (fun W (hb : Below w.heap.size w W) => sbLong_any v dv es ds W (FV.out.below hb) hf (DV.out.below hb) (by omega) hzd)
  obtain ⟨p, c, rfl⟩ := files_formP hv
  obtain ⟨pd, cd, rfl⟩ := draws_formS hd
  obtain ⟨pn, kn, rfl⟩ := nds_form hD.nds
  obtain ⟨pc, kc, rfl⟩ := cts_form hD.cts
  clear hD hv hd
  cases lg : lngS es ds with
  | true =>
    rw [lg] at HLo
    clear lg hz hC hf hzd hT DV FV DD h16
    go_enter Tryz.func4, Tryz.ntmps4
    go_upto_region 1 with fail
    generalize (w.alloc (.cells #[.slice pn l.length kn, .slice pc C.length kc] 25)).alloc (.cells #[.int .i64 form, .int .i64 sub, .slice pd ds.length cd] 28) = w0 at *
    go_wp2_with fail
    refine (HW.out _ B0.out).mono ?_
    rintro e w1 ⟨rfl, b1⟩
    have B1 := hide (chain B0.out b1)
    replace ND := hide (ND.out.below b1)
    replace NA := hide (NA.out.below b1)
    have x0 := NA.out.cell 2 rfl
    clear b1 B0
    go_wp2_with fail
    refine (HLo.out _ B1.out).mono ?_
    rintro e w2 ⟨rfl, hu⟩
    obtain rfl : w1 = w2 := hu.symm
    go_wp2_with fail
    go_ret
    exact ⟨rfl, B1.out⟩
  | false =>
    rw [lg] at HLo
    obtain ⟨g1, g2, g3⟩ := lngS_out lg
    obtain ⟨l60, hok⟩ := long_ok g1
    have HCo := hide (fun W (hb : Below w.heap.size w W) => sbCopied_any (.slice pn l.length kn) (.slice pc C.length kc) l C W (DD.out.below hb) hz hC)
    have HMk := hide (fun nv' cv' W (hb : Below w.heap.size w W) (hD : DocV W nv' cv' l C) => sbMake_any 2000 nv' cv' (.slice p es.length c) (.slice pd ds.length cd) l C form sub es ds W hD hz hC (FV.out.below hb) (DV.out.below hb) (by omega) hok g3 (hT.below hb))
    have HDu := hide (fun W (hb : Below w.heap.size w W) => sbDecU_any (urlS es) W (ur_sizeS hok) (hT.below hb))
    rw [show decU (urlS es).data.toList = plainU es from back_u es] at HDu
    have HRp := hide (fun W (hb : Below w.heap.size w W) => refPlain19_any 2000 (.slice p es.length c) es W (FV.out.below hb) (by omega) hok)
    have HSu := hide (fun a b W (ha : FilesV W a (plainU es)) (hb : FilesV W b (plainU es)) => refSameFiles_yes a b (plainU es) W ha hb (by rw [plain_nS]; omega))
    have HRt := hide (fun W (hb' : Below w.heap.size w W) => refTold_any 2000 (.slice p es.length c) es W (FV.out.below hb') (by omega) hok)
    have HSt := hide (fun a b W (ha : FilesV W a (es.map toldE)) (hb : FilesV W b (es.map toldE)) => refSameFiles_yes a b (es.map toldE) W ha hb (by rw [told_n]; omega))
    have HDp := hide (fun b (hm : b ∈ ds) (hc : clrL es (bL b) = true) W (hb' : Below w.heap.size w W) => sbBack_parts es b W hok l60 (g3 b hm) hc (hT.below hb'))
    have BQ := hide (mak_ways l C form sub es ds)
    have HB5 := hide g3
    have QF := hide (qry_found (actP l form sub) es)
    have AS : Hid ((getP l form sub es).ac.size ≤ 562949953421312) := ac_size hz hok
    clear lg hz hC hf hzd hT g1 g2 g3 hok DD h16 FV DV
    generalize es.map toldE = tl at *
    generalize plainU es = pu at *
    generalize (makP l C form sub es ds).1 = P at *
    generalize (makP l C form sub es ds).2 = pe at *
    go_enter Tryz.func4, Tryz.ntmps4
    go_upto_region 1 with fail
    generalize (w.alloc (.cells #[.slice pn l.length kn, .slice pc C.length kc] 25)).alloc (.cells #[.int .i64 form, .int .i64 sub, .slice pd ds.length cd] 28) = w0 at *
    go_wp2_with fail
    refine (HW.out _ B0.out).mono ?_
    rintro e w1 ⟨rfl, b1⟩
    have B1 := hide (chain B0.out b1)
    replace ND := hide (ND.out.below b1)
    replace NA := hide (NA.out.below b1)
    have x0 := NA.out.cell 2 rfl
    clear b1 B0
    go_wp2_with fail
    refine (HLo.out _ B1.out).mono ?_
    rintro e w2 ⟨rfl, hu⟩
    obtain rfl : w1 = w2 := hu.symm
    go_upto_region 5 with fail
    have BZ : Hid (Below w.heap.size w w1.drew) := bel_drw B1.out
    have NZ : Hid (Bk w1.drew w.heap.size [.slice pn l.length kn, .slice pc C.length kc] 25) := ⟨ND.out.lies⟩
    have AZ : Hid (Bk w1.drew (w.heap.size + 1) [.int .i64 form, .int .i64 sub, .slice pd ds.length cd] 28) := ⟨NA.out.lies⟩
    clear B1 ND NA x0 HW HLo
    have QQ : ∀ z : World, z = w1.drew → z = w1.drew := fun z h => h
    generalize hwz : w1.drew = wz at BZ NZ AZ
    have SK : Hid (∀ W, Below wz.heap.size wz W → (fun X : World => X.cell? ⟨w.heap.size, 0, none⟩ = some (.slice pn l.length kn) ∧ X.cell? ⟨w.heap.size, 1, none⟩ = some (.slice pc C.length kc) ∧ X.cell? ⟨w.heap.size + 1, 0, none⟩ = some (.int .i64 form) ∧ X.cell? ⟨w.heap.size + 1, 1, none⟩ = some (.int .i64 sub) ∧ X.cell? ⟨w.heap.size + 1, 2, none⟩ = some (.slice pd ds.length cd)) W) := fun W hb => ⟨((NZ.out.below hb).cell 0 rfl), ((NZ.out.below hb).cell 1 rfl), ((AZ.out.below hb).cell 0 rfl), ((AZ.out.below hb).cell 1 rfl), ((AZ.out.below hb).cell 2 rfl)⟩
    refine wp_region_held_drew (S := fun X : World => X.cell? ⟨w.heap.size, 0, none⟩ = some (.slice pn l.length kn) ∧ X.cell? ⟨w.heap.size, 1, none⟩ = some (.slice pc C.length kc) ∧ X.cell? ⟨w.heap.size + 1, 0, none⟩ = some (.int .i64 form) ∧ X.cell? ⟨w.heap.size + 1, 1, none⟩ = some (.int .i64 sub) ∧ X.cell? ⟨w.heap.size + 1, 2, none⟩ = some (.slice pd ds.length cd)) (by kernel_rfl) (by rw [hwz]; exact SK.out _ (Below.refl _ _)) (fun hHeld => ?_)
    rw [hwz] at hHeld ⊢
    clear QQ hwz w1
    refine wpAnyH_take (i := 0) (oi := { dst := some 23, op := Op.load 25 (Operand.tmp 3), type := 25, pos := "law.go:88", after := #[], guard := none }) (v := ?_) rfl (by kernel_rfl) (by kernel_rfl) (by kernel_rfl) (fun _ _ _ h => h) (Or.inl ⟨by rfl, ?_⟩) (by assumption) ?_
    rotate_left
    · (intro w hSw; (try dsimp only at hSw); first | (go_simp; done) | (go_simp; with_reducible rfl))
    simp only [Act.put, List.setIfInBounds_toArray, List.set_cons_zero, List.set_cons_succ]
    refine wpAnyH_take (i := 2) (oi := { dst := some 25, op := Op.fieldAddr 28 (Operand.tmp 4) 0, type := 0, pos := "law.go:88", after := #[], guard := none }) (v := ?_) rfl (by kernel_rfl) (by kernel_rfl) (by kernel_rfl) (fun _ _ _ h => h) (Or.inl ⟨by rfl, ?_⟩) (by assumption) ?_
    rotate_left
    · (intro w hSw; (try dsimp only at hSw); first | (go_simp; done) | (go_simp; with_reducible rfl))
    simp only [Act.put, List.setIfInBounds_toArray, List.set_cons_zero, List.set_cons_succ]
    refine wpAnyH_take (i := 3) (oi := { dst := some 26, op := Op.load 3 (Operand.tmp 25), type := 3, pos := "law.go:88", after := #[{ on := 2, ground := Ground.data }], guard := none }) (v := ?_) rfl (by kernel_rfl) (by kernel_rfl) (by kernel_rfl) (fun _ _ _ h => h) (Or.inl ⟨by rfl, ?_⟩) (by assumption) ?_
    rotate_left
    · (intro w hSw; (try dsimp only at hSw); first | (go_simp; done) | (go_simp; with_reducible rfl))
    simp only [Act.put, List.setIfInBounds_toArray, List.set_cons_zero, List.set_cons_succ]
    refine wpAnyH_take (i := 4) (oi := { dst := some 27, op := Op.fieldAddr 28 (Operand.tmp 4) 1, type := 0, pos := "law.go:88", after := #[], guard := none }) (v := ?_) rfl (by kernel_rfl) (by kernel_rfl) (by kernel_rfl) (fun _ _ _ h => h) (Or.inl ⟨by rfl, ?_⟩) (by assumption) ?_
    rotate_left
    · (intro w hSw; (try dsimp only at hSw); first | (go_simp; done) | (go_simp; with_reducible rfl))
    simp only [Act.put, List.setIfInBounds_toArray, List.set_cons_zero, List.set_cons_succ]
    refine wpAnyH_take (i := 5) (oi := { dst := some 28, op := Op.load 3 (Operand.tmp 27), type := 3, pos := "law.go:88", after := #[{ on := 4, ground := Ground.data }], guard := none }) (v := ?_) rfl (by kernel_rfl) (by kernel_rfl) (by kernel_rfl) (fun _ _ _ h => h) (Or.inl ⟨by rfl, ?_⟩) (by assumption) ?_
    rotate_left
    · (intro w hSw; (try dsimp only at hSw); first | (go_simp; done) | (go_simp; with_reducible rfl))
    simp only [Act.put, List.setIfInBounds_toArray, List.set_cons_zero, List.set_cons_succ]
    refine wpAnyH_take (i := 6) (oi := { dst := some 29, op := Op.move (Operand.tmp 2), type := 29, pos := "law.go:88", after := #[], guard := none }) (v := ?_) rfl (by kernel_rfl) (by kernel_rfl) (by kernel_rfl) (fun _ _ _ h => h) (Or.inl ⟨by rfl, ?_⟩) (by assumption) ?_
    rotate_left
    · (intro w hSw; (try dsimp only at hSw); first | (go_simp; done) | (go_simp; with_reducible rfl))
    simp only [Act.put, List.setIfInBounds_toArray, List.set_cons_zero, List.set_cons_succ]
    refine wpAnyH_take (i := 7) (oi := { dst := some 30, op := Op.fieldAddr 28 (Operand.tmp 4) 2, type := 0, pos := "law.go:88", after := #[], guard := none }) (v := ?_) rfl (by kernel_rfl) (by kernel_rfl) (by kernel_rfl) (fun _ _ _ h => h) (Or.inl ⟨by rfl, ?_⟩) (by assumption) ?_
    rotate_left
    · (intro w hSw; (try dsimp only at hSw); first | (go_simp; done) | (go_simp; with_reducible rfl))
    simp only [Act.put, List.setIfInBounds_toArray, List.set_cons_zero, List.set_cons_succ]
    refine wpAnyH_take (i := 8) (oi := { dst := some 31, op := Op.load 26 (Operand.tmp 30), type := 26, pos := "law.go:88", after := #[{ on := 7, ground := Ground.data }], guard := none }) (v := ?_) rfl (by kernel_rfl) (by kernel_rfl) (by kernel_rfl) (fun _ _ _ h => h) (Or.inl ⟨by rfl, ?_⟩) (by assumption) ?_
    rotate_left
    · (intro w hSw; (try dsimp only at hSw); first | (go_simp; done) | (go_simp; with_reducible rfl))
    simp only [Act.put, List.setIfInBounds_toArray, List.set_cons_zero, List.set_cons_succ]
    refine wpAnyH_inv (fun listed a W => ∃ d1 d9 d10 d11 d12 d13 d14 d15 : Bool, ∃ x1 x9 x10 x11 x12 x13 x15 : Value, listed = #[true, d1, true, true, true, true, true, true, true, d9, d10, d11, d12, d13, d14, d15] ∧ a = { tmps := #[.agg #[.slice pn l.length kn, .slice pc C.length kc], .agg #[.int .i64 form, .int .i64 sub, .slice pd ds.length cd], .slice p es.length c, .pointer (some ⟨w.heap.size, 0, none⟩), .pointer (some ⟨w.heap.size + 1, 0, none⟩), undef, .bool false, x13, x15, undef, undef, undef, undef, undef, undef, undef, .bool true, .bool false, .slice p es.length c, .pointer (some ⟨w.heap.size + 1, 2, none⟩), .slice pd ds.length cd, .bool false, x10, .agg #[.slice pn l.length kn, .slice pc C.length kc], x1, .pointer (some ⟨w.heap.size + 1, 0, none⟩), .int .i64 form, .pointer (some ⟨w.heap.size + 1, 1, none⟩), .int .i64 sub, .slice p es.length c, .pointer (some ⟨w.heap.size + 1, 2, none⟩), .slice pd ds.length cd, x9, x11, x12, undef, undef, undef, undef, undef, undef, undef, undef, undef, undef, undef, undef, undef, undef, undef, undef, undef, undef, undef, undef, undef, undef, undef, undef, undef, undef, undef, undef, undef, undef, undef, undef, undef, undef, undef, undef, undef, undef, undef, undef, undef, undef, undef, undef, undef, undef, undef, undef, undef, undef, undef, undef, undef, undef, undef, undef, undef, undef, undef, undef, undef, undef, undef, undef, undef, undef, undef, undef, undef, undef, undef, undef, undef, undef, undef, undef, undef, undef, undef, undef, undef, undef, undef, undef, undef, undef, undef, undef, undef, undef, undef, undef, undef, undef, undef, undef, undef, undef, undef, undef, undef, undef, undef, undef, undef, undef, undef], defers := [] } ∧ MkB wz W l C P.vals pe d1 d9 d10 d11 d12 d13 d14 d15 x1 x9 x10 x11 x12 x13 x15) ?hs ?he _ _ _ _ (by decide) ⟨false, false, false, false, false, false, false, false, undef, undef, undef, undef, undef, undef, undef, rfl, rfl, ?hi⟩ hHeld
    case hi => exact ⟨Below.refl _ _, fun t => (by cases t), fun t => (by cases t), fun t => (by cases t), fun t => (by cases t), fun t => (by cases t), fun t => (by cases t), fun t => (by cases t), fun t => (by cases t)⟩
    case hs =>
      intro listed a W i o hI hS ho hu hd K hK
      obtain ⟨d1, d9, d10, d11, d12, d13, d14, d15, x1, x9, x10, x11, x12, x13, x15, rfl, rfl, H⟩ := hI
      (try dsimp only at hS)
      obtain ⟨y0, y1, y2, y3, y4⟩ := hS
      rcases i with _|_|_|_|_|_|_|_|_|_|_|_|_|_|_|_|i
      · exact nomatch (show true = false from hu)
      · obtain rfl : d1 = false := hu
        obtain rfl : { dst := some 24, op := Op.call { callee := Callee.value (Operand.func 9), args := #[Operand.tmp 23], argTypes := #[25] }, type := 25, pos := "law.go:88", after := #[{ on := 0, ground := Ground.data }], guard := none } = o := Option.some.inj ho
        go_simp
        refine (HCo.out _ (chain BZ.out H.bel)).mono ?_
        rintro e wn ⟨nv', cv', rfl, hDn, bn⟩
        go_wp2_with fail
        have HN := H.below bn
        refine hK.out _ _ (SK.out _ HN.bel) ⟨true, d9, d10, d11, d12, d13, d14, d15, _, x9, x10, x11, x12, x13, x15, rfl, rfl, { HN with f1 := fun _ _ => ⟨nv', cv', rfl, hDn⟩ }⟩
      · exact nomatch (show true = false from hu)
      · exact nomatch (show true = false from hu)
      · exact nomatch (show true = false from hu)
      · exact nomatch (show true = false from hu)
      · exact nomatch (show true = false from hu)
      · exact nomatch (show true = false from hu)
      · exact nomatch (show true = false from hu)
      · obtain rfl : d9 = false := hu
        obtain rfl : { dst := some 32, op := Op.call { callee := Callee.value (Operand.func 8), args := #[Operand.tmp 24, Operand.tmp 26, Operand.tmp 28, Operand.tmp 29, Operand.tmp 31], argTypes := #[25, 3, 3, 29, 26] }, type := 35, pos := "law.go:88", after := #[{ on := 1, ground := Ground.data }, { on := 3, ground := Ground.data }, { on := 5, ground := Ground.data }, { on := 6, ground := Ground.data }, { on := 8, ground := Ground.data }, { on := 1, ground := Ground.chain }], guard := none } = o := Option.some.inj ho
        have e1 : d1 = true := hd ⟨1, .data⟩ (by simp) rfl
        subst e1
        obtain ⟨nv', cv', rfl, hDn⟩ := H.f1 rfl rfl
        go_simp
        refine (HMk.out _ _ _ (chain BZ.out H.bel) hDn).mono ?_
        rintro e wn ⟨rfl, bn⟩
        go_wp2_with fail
        have HN := H.below bn
        refine hK.out _ _ (SK.out _ HN.bel) ⟨true, true, d10, d11, d12, d13, d14, d15, _, _, x10, x11, x12, x13, x15, rfl, rfl, { HN with f1 := fun _ t => (by cases t), f9 := fun _ => rfl }⟩
      · obtain rfl : d10 = false := hu
        obtain rfl : { dst := some 22, op := Op.move (Operand.tmp 32), type := 35, pos := "law.go:88", after := #[{ on := 9, ground := Ground.data }], guard := none } = o := Option.some.inj ho
        have e9 : d9 = true := hd ⟨9, .data⟩ (by simp) rfl
        subst e9
        obtain rfl := H.f9 rfl
        go_simp
        refine hK.out _ _ (SK.out _ H.bel) ⟨d1, true, true, d11, d12, d13, d14, d15, x1, _, _, x11, x12, x13, x15, rfl, rfl, { H with f10 := fun _ => rfl }⟩
      · obtain rfl : d11 = false := hu
        obtain rfl : { dst := some 33, op := Op.extract (Operand.tmp 22) 0, type := 33, pos := "law.go:88", after := #[{ on := 10, ground := Ground.data }], guard := none } = o := Option.some.inj ho
        have e10 : d10 = true := hd ⟨10, .data⟩ (by simp) rfl
        subst e10
        obtain rfl := H.f10 rfl
        go_simp
        refine hK.out _ _ (SK.out _ H.bel) ⟨d1, d9, true, true, d12, d13, d14, d15, x1, x9, _, _, x12, x13, x15, rfl, rfl, { H with f11 := fun _ => rfl }⟩
      · obtain rfl : d12 = false := hu
        obtain rfl : { dst := some 34, op := Op.extract (Operand.tmp 22) 1, type := 34, pos := "law.go:88", after := #[{ on := 10, ground := Ground.data }, { on := 14, ground := Ground.gcOnly Departure.lateStores }], guard := none } = o := Option.some.inj ho
        have e10 : d10 = true := hd ⟨10, .data⟩ (by simp) rfl
        subst e10
        obtain rfl := H.f10 rfl
        go_simp
        refine hK.out _ _ (SK.out _ H.bel) ⟨d1, d9, true, d11, true, d13, d14, d15, x1, x9, _, x11, _, x13, x15, rfl, rfl, { H with f12 := fun _ => rfl }⟩
      · obtain rfl : d13 = false := hu
        obtain rfl : { dst := some 7, op := Op.alloc 33, type := 0, pos := "law.go:88", after := #[], guard := none } = o := Option.some.inj ho
        have e14 : d14 = false := by
          cases d14 with
          | false => rfl
          | true => exact absurd (H.s14 rfl) (by simp)
        subst e14
        have bn : Below W.heap.size W (W.alloc (.cells #[.string ⟨#[]⟩, .string ⟨#[]⟩, .string ⟨#[]⟩, .string ⟨#[]⟩, .string ⟨#[]⟩] 33)) := (Below.refl _ _).alloc (Nat.le_refl _) _
        have kn' := Bk.new W [.string ⟨#[]⟩, .string ⟨#[]⟩, .string ⟨#[]⟩, .string ⟨#[]⟩, .string ⟨#[]⟩] 33
        have ge := H.bel.size
        go_simp
        have HN := H.below bn
        refine hK.out _ _ (SK.out _ HN.bel) ⟨d1, d9, d10, d11, d12, true, false, d15, x1, x9, x10, x11, x12, _, x15, rfl, rfl, { HN with f13 := fun _ => ⟨_, ge, rfl, kn'⟩, s14 := fun t => (by cases t) }⟩
      · obtain rfl : d14 = false := hu
        obtain rfl : { dst := none, op := Op.store 33 (Operand.tmp 7) (Operand.tmp 33), type := 0, pos := "law.go:88", after := #[{ on := 13, ground := Ground.data }, { on := 11, ground := Ground.data }, { on := 9, ground := Ground.chain }, { on := 0, ground := Ground.phase }, { on := 1, ground := Ground.phase }, { on := 2, ground := Ground.phase }, { on := 3, ground := Ground.phase }, { on := 4, ground := Ground.phase }, { on := 5, ground := Ground.phase }, { on := 6, ground := Ground.phase }, { on := 7, ground := Ground.phase }, { on := 8, ground := Ground.phase }, { on := 9, ground := Ground.phase }, { on := 10, ground := Ground.phase }, { on := 11, ground := Ground.phase }, { on := 12, ground := Ground.textOnly Departure.lateStores }, { on := 13, ground := Ground.phase }], guard := none } = o := Option.some.inj ho
        have e13 : d13 = true := hd ⟨13, .data⟩ (by simp) rfl
        have e11 : d11 = true := hd ⟨11, .data⟩ (by simp) rfl
        have e9 : d9 = true := hd ⟨9, .chain⟩ (by simp) rfl
        subst e13
        subst e11
        subst e9
        obtain ⟨E, ge, rfl, KE⟩ := H.f13 rfl
        obtain rfl := H.f11 rfl
        have g0 := KE.cell 0 rfl
        have q0 := KE.free 0
        have g1 := KE.cell 1 rfl
        have q1 := KE.free 1
        have g2 := KE.cell 2 rfl
        have q2 := KE.free 2
        have g3 := KE.cell 3 rfl
        have q3 := KE.free 3
        have g4 := KE.cell 4 rfl
        have q4 := KE.free 4
        have K5 : Bk (((((W.setCell ⟨E, 0, none⟩ (.string P.me)).setCell ⟨E, 1, none⟩ (.string P.ac)).setCell ⟨E, 2, none⟩ (.string P.ta)).setCell ⟨E, 3, none⟩ (.string P.bo)).setCell ⟨E, 4, none⟩ (.string P.ty)) E P.vals 33 := ((((KE.set 0 _).set 1 _).set 2 _).set 3 _).set 4 _
        have b5 : Below wz.heap.size wz (((((W.setCell ⟨E, 0, none⟩ (.string P.me)).setCell ⟨E, 1, none⟩ (.string P.ac)).setCell ⟨E, 2, none⟩ (.string P.ta)).setCell ⟨E, 3, none⟩ (.string P.bo)).setCell ⟨E, 4, none⟩ (.string P.ty)) := ((((H.bel.setCell ge _).setCell ge _).setCell ge _).setCell ge _).setCell ge _
        simp only [Pl.vals]
        go_simp
        refine hK.out _ _ (SK.out _ b5) ⟨d1, true, d10, true, d12, true, true, d15, x1, x9, x10, _, x12, _, x15, rfl, rfl, ?_⟩
        exact { H with bel := b5, f1 := fun _ t => (by cases t), f13 := fun _ => ⟨E, ge, rfl, K5⟩, s14 := fun _ => rfl }
      · obtain rfl : d15 = false := hu
        obtain rfl : { dst := some 8, op := Op.assign (Operand.tmp 34), type := 34, pos := "law.go:88", after := #[{ on := 12, ground := Ground.data }, { on := 14, ground := Ground.chain }, { on := 0, ground := Ground.phase }, { on := 1, ground := Ground.phase }, { on := 2, ground := Ground.phase }, { on := 3, ground := Ground.phase }, { on := 4, ground := Ground.phase }, { on := 5, ground := Ground.phase }, { on := 6, ground := Ground.phase }, { on := 7, ground := Ground.phase }, { on := 8, ground := Ground.phase }, { on := 9, ground := Ground.phase }, { on := 10, ground := Ground.phase }, { on := 11, ground := Ground.phase }, { on := 12, ground := Ground.phase }, { on := 13, ground := Ground.phase }, { on := 14, ground := Ground.phase }], guard := none } = o := Option.some.inj ho
        have e12 : d12 = true := hd ⟨12, .data⟩ (by simp) rfl
        subst e12
        obtain rfl := H.f12 rfl
        go_simp
        refine hK.out _ _ (SK.out _ H.bel) ⟨d1, d9, d10, d11, true, d13, d14, true, x1, x9, x10, x11, _, x13, _, rfl, rfl, { H with f15 := fun _ => rfl }⟩
      · exact nomatch (show true = false from hu)
    case he =>
      intro listed a W hI hS hr
      obtain ⟨d1, d9, d10, d11, d12, d13, d14, d15, x1, x9, x10, x11, x12, x13, x15, rfl, rfl, H⟩ := hI
      clear hS
      obtain rfl : d1 = true := rdy (i := 1) hr rfl (by simp [Region.binds])
      obtain rfl : d9 = true := rdy (i := 9) hr rfl (by simp [Region.binds])
      obtain rfl : d10 = true := rdy (i := 10) hr rfl (by simp [Region.binds])
      obtain rfl : d11 = true := rdy (i := 11) hr rfl (by simp [Region.binds])
      obtain rfl : d13 = true := rdy (i := 13) hr rfl (by simp [Region.binds])
      obtain rfl : d14 = true := rdy (i := 14) hr rfl (by simp [Region.binds])
      obtain rfl : d12 = true := rdy (i := 12) hr rfl (by simp [Region.binds])
      obtain rfl : d15 = true := rdy (i := 15) hr rfl (by simp [Region.binds])
      obtain rfl := H.f15 rfl
      obtain ⟨E, ge, rfl, KE⟩ := H.f13 rfl
      have BW := hide (chain BZ.out H.bel)
      have KP : Hid (Bk W E [.string P.me, .string P.ac, .string P.ta, .string P.bo, .string P.ty] 33) := KE
      clear H KE hr ge SK NZ AZ BZ HCo HMk hHeld hu
      rcases BQ.out with ⟨hP, hne⟩ | ⟨hP, h0⟩ | ⟨hP, h0⟩ | ⟨bb, hm, hc, hP, h0⟩ | ⟨hP, h0⟩ | ⟨hP, h0⟩
      · have n0 : (pe != 0) = true := by simpa using hne
        obtain rfl := hP
        have k0 := KP.out.cell 0 rfl
        have k1 := KP.out.cell 1 rfl
        have k2 := KP.out.cell 2 rfl
        have k3 := KP.out.cell 3 rfl
        have k4 := KP.out.cell 4 rfl
        clear HDu HRp HSu HDp HRt HSt BQ
        simp only [pl0] at k0 k1 k2 k3 k4
        go_wp2_with fail
        go_ret
        exact ⟨rfl, BW.out⟩
      · obtain rfl := hP
        obtain rfl := h0
        obtain ⟨X, T, q1, q2, q3, q4, q5⟩ := QF.out
        have KG : Hid (Bk W E [.string sGet, .string (txt (qryL (bL (actP l form sub)) (encU es))), .string (tarP l form sub), .string ⟨#[]⟩, .string ⟨#[]⟩] 33) := KP
        have AG : Hid ((txt (qryL (bL (actP l form sub)) (encU es))).size ≤ 562949953421312) := AS
        clear KP AS QF HDp HRt HSt BQ
        generalize txt (qryL (bL (actP l form sub)) (encU es)) = ac at *
        have Q1 := hide q1
        have Q2 := hide q2
        have Q5 := hide q5
        have k0 := KG.out.cell 0 rfl
        have k1 := KG.out.cell 1 rfl
        simp only [sGet] at k0
        clear q1 q2 q5
        obtain ⟨T', rfl⟩ : ∃ t, T = t + 1 := ⟨T - 1, by omega⟩
        have ag := AG.out
        go_wp2_with fail
        go_quiet (fail)
        go_wp2_with fail
        go_loop [10, 11] (fun tv iv => ∃ k t : Nat, k ≤ ac.size ∧ t ≤ ac.size ∧ Hid (fsB 35 ac ac.size k = t) ∧ tv = .int .i64 (t : Int) ∧ ((k = 0 ∧ iv = .int .i64 (-1)) ∨ ∃ j : Nat, k = j + 1 ∧ iv = .int .i64 (j : Int))) (fun _ iv => (intOf iv + 1).toNat)
        case atStart => exact ⟨ac.size, ac.size, Nat.le_refl _, Nat.le_refl _, fsB_end, rfl, .inr ⟨ac.size - 1, by omega, by go_num⟩⟩
        case round =>
          obtain ⟨k, t, hk, ht, HF, rfl, ⟨rfl, rfl⟩ | ⟨j, rfl, rfl⟩⟩ := hrel
          · obtain rfl : T' + 1 = t := Q1.out.symm.trans HF.out
            clear HF Q1
            go_wp2_with fail
            go_loop [9, 12] (fun fv iv => ∃ k : Nat, k ≤ T' + 1 ∧ ((fv = .int .i64 (-1) ∧ Hid (fsB 63 ac (T' + 1) k = T' + 1)) ∨ ∃ m : Nat, fv = .int .i64 ((m + 1 : Nat) : Int) ∧ Hid (fsB 63 ac (T' + 1) k = m ∧ m < T' + 1)) ∧ ((k = 0 ∧ iv = .int .i64 (-1)) ∨ ∃ j : Nat, k = j + 1 ∧ iv = .int .i64 (j : Int))) (fun _ iv => (intOf iv + 1).toNat)
            case atStart => exact ⟨T' + 1, Nat.le_refl _, .inl ⟨rfl, fsB_end⟩, .inr ⟨T', rfl, by go_num⟩⟩
            case round =>
              obtain ⟨k, hk2, hfv, ⟨rfl, rfl⟩ | ⟨j, rfl, rfl⟩⟩ := hrel
              · rcases hfv with ⟨rfl, HG⟩ | ⟨m, rfl, HG⟩
                · exact absurd (Q2.out.symm.trans HG.out) (by omega)
                · obtain rfl : X = m := Q2.out.symm.trans HG.out.1
                  clear HG Q2
                  have z1 : X + 1 ≤ T' + 1 := q3
                  have z2 : ((X + 1 : Nat) : Int) ≤ ((T' + 1 : Nat) : Int) := by omega
                  have z3 : ((T' + 1 : Nat) : Int) ≤ (ac.size : Int) := by omega
                  have z0 : decide ((0 : Int) ≤ ((X + 1 : Nat) : Int)) = true := decide_eq_true (by omega)
                  rw [← Q5.out] at HDu
                  have BQ : Hid (∀ n, Below w.heap.size w (W.drewN n)) := fun n => ⟨BW.out.os, BW.out.tape, BW.out.output, BW.out.size, BW.out.block⟩
                  clear Q5 BW
                  go_wp2_with fail
                  refine (HDu.out _ (BQ.out _)).mono ?_
                  rintro e w3 ⟨v3, rfl, f3, b3⟩
                  have F3 := hide f3
                  have B3 := hide (chain (BQ.out _) b3)
                  obtain ⟨p3, c3, rfl⟩ := files_formP f3
                  clear f3 b3 BQ
                  go_wp2_with fail
                  refine (HRp.out _ B3.out).mono ?_
                  rintro e w4 ⟨v4, rfl, f4, b4⟩
                  have F4 := hide f4.files
                  have B4 := hide (chain B3.out b4)
                  replace F3 := hide (F3.out.below b4)
                  obtain ⟨p4, c4, rfl⟩ := files_formP F4.out
                  clear f4 b4 B3
                  go_wp2_with fail
                  refine (HSu.out _ _ _ F3.out F4.out).mono ?_
                  rintro e w5 ⟨rfl, b5⟩
                  go_wp2_with fail
                  go_ret
                  exact ⟨rfl, chain B4.out b5⟩
              · have j1 : (j : Int) < (ac.size : Int) := by omega
                have j2 : j < ac.size := by omega
                have j3 : decide ((0 : Int) ≤ (j : Int)) = true := decide_eq_true (by omega)
                by_cases hc : ac[j] = 63
                · have i3 : ((ac[j].toNat : Int) == 63) = true := by rw [hc]; rfl
                  have HN : Hid (fsB 63 ac (T' + 1) j = j ∧ j < T' + 1) := ⟨fsB_hit (by omega) q4 j2 hc, by omega⟩
                  clear hc Q2 Q5 HDu HRp HSu
                  go_wp2_with fail
                  go_round
                  case rel => exact ⟨j, by omega, .inr ⟨j, by go_num, HN⟩, low_two j (by go_num)⟩
                  case measure => (simp [intOf]; try omega)
                · have i3 : ((ac[j].toNat : Int) == 63) = false := ne_intS (c := 63) hc
                  have HM := hide (fsB_miss (c := 63) (by omega) q4 j2 hc)
                  clear hc Q2 Q5 HDu HRp HSu
                  rcases hfv with ⟨rfl, HG⟩ | ⟨m, rfl, HG⟩
                  · have HN : Hid (fsB 63 ac (T' + 1) j = T' + 1) := HM.out.trans HG.out
                    clear HG HM
                    go_wp2_with fail
                    go_round
                    case rel => exact ⟨j, by omega, .inl ⟨rfl, HN⟩, low_two j (by go_num)⟩
                    case measure => (simp [intOf]; try omega)
                  · have HN : Hid (fsB 63 ac (T' + 1) j = m ∧ m < T' + 1) := ⟨HM.out.trans HG.out.1, HG.out.2⟩
                    clear HG HM
                    go_wp2_with fail
                    go_round
                    case rel => exact ⟨j, by omega, .inr ⟨m, rfl, HN⟩, low_two j (by go_num)⟩
                    case measure => (simp [intOf]; try omega)
          · have j1 : (j : Int) < (ac.size : Int) := by omega
            have j2 : j < ac.size := by omega
            have j3 : decide ((0 : Int) ≤ (j : Int)) = true := decide_eq_true (by omega)
            by_cases hc : ac[j] = 35
            · have i3 : ((ac[j].toNat : Int) == 35) = true := by rw [hc]; rfl
              have HN : Hid (fsB 35 ac ac.size j = j) := fsB_hit j2 (Nat.le_refl _) j2 hc
              clear hc HF Q1 Q2 Q5 HDu HRp HSu
              go_wp2_with fail
              go_round
              case rel => exact ⟨j, j, by omega, by omega, HN, rfl, low_two j (by go_num)⟩
              case measure => (simp [intOf]; try omega)
            · have i3 : ((ac[j].toNat : Int) == 35) = false := ne_intS (c := 35) hc
              have HM : Hid (fsB 35 ac ac.size j = t) := (fsB_miss j2 (Nat.le_refl _) j2 hc).trans HF.out
              clear hc HF Q1 Q2 Q5 HDu HRp HSu
              go_wp2_with fail
              go_round
              case rel => exact ⟨j, t, by omega, ht, HM, rfl, low_two j (by go_num)⟩
              case measure => (simp [intOf]; try omega)
      · obtain rfl := hP
        obtain rfl := h0
        have k0 := KP.out.cell 0 rfl
        have k4 := KP.out.cell 4 rfl
        clear HDu HRp HSu HDp HRt HSt BQ
        simp only [diaP, sDia] at k0 k4
        go_wp2_with fail
        go_ret
        exact ⟨rfl, BW.out⟩
      · obtain rfl := hP
        obtain rfl := h0
        replace HDp := hide (HDp.out bb hm hc)
        have k0 := KP.out.cell 0 rfl
        have k3 := KP.out.cell 3 rfl
        have k4 := KP.out.cell 4 rfl
        have y1 := my_not bb
        have y2 := clr_some hc
        have y3 := my_size bb
        have y4 := my_first bb
        have y5 := my_rest bb
        have y8 : (mY.toList == [109, 117, 108, 116, 105, 112, 97, 114, 116, 47, 102, 111, 114, 109, 45, 100, 97, 116, 97, 59, 32, 98, 111, 117, 110, 100, 97, 114, 121, 61]) = true := by rw [ByteArray.toList_eq]; rfl
        have b5 : bb.size ≤ 500 := HB5.out bb hm
        clear HDu HRp HSu BQ hm hc
        simp only [sPost] at k0
        generalize encT20 es bb = et at *
        generalize hty : mY ++ bb = ty at *
        clear hty
        have y6 : decide ((30 : Int) < (ty.size : Int)) = true := decide_eq_true (by omega)
        have y7 : (30 : Int) ≤ (ty.size : Int) := by omega
        rw [← y5] at HDp
        clear y2 y5 y3 b5 HB5
        go_wp2_with fail
        refine wp_region_held_drew (S := fun X : World => X.cell? ⟨E, 3, none⟩ = some (.string et) ∧ X.cell? ⟨E, 4, none⟩ = some (.string ty)) (by kernel_rfl) ?_ (fun hHeld => ?_)
        · exact ⟨k3, k4⟩
        refine wpAnyH_take (i := 0) (oi := { dst := some 111, op := Op.fieldAddr 33 (Operand.tmp 7) 3, type := 0, pos := "law.go:111", after := #[], guard := none }) (v := ?_) rfl (by kernel_rfl) (by kernel_rfl) (by kernel_rfl) (fun _ _ _ h => h) (Or.inl ⟨by rfl, ?_⟩) (by assumption) ?_
        rotate_left
        · (intro w hSw; (try dsimp only at hSw); first | (go_simp; done) | (go_simp; with_reducible rfl))
        simp only [Act.put, List.setIfInBounds_toArray, List.set_cons_zero, List.set_cons_succ]
        refine wpAnyH_take (i := 1) (oi := { dst := some 112, op := Op.load 9 (Operand.tmp 111), type := 9, pos := "law.go:111", after := #[{ on := 0, ground := Ground.data }], guard := none }) (v := ?_) rfl (by kernel_rfl) (by kernel_rfl) (by kernel_rfl) (fun _ _ _ h => h) (Or.inl ⟨by rfl, ?_⟩) (by assumption) ?_
        rotate_left
        · (intro w hSw; (try dsimp only at hSw); first | (go_simp; done) | (go_simp; with_reducible rfl))
        simp only [Act.put, List.setIfInBounds_toArray, List.set_cons_zero, List.set_cons_succ]
        refine wpAnyH_take (i := 2) (oi := { dst := some 113, op := Op.fieldAddr 33 (Operand.tmp 7) 4, type := 0, pos := "law.go:111", after := #[], guard := none }) (v := ?_) rfl (by kernel_rfl) (by kernel_rfl) (by kernel_rfl) (fun _ _ _ h => h) (Or.inl ⟨by rfl, ?_⟩) (by assumption) ?_
        rotate_left
        · (intro w hSw; (try dsimp only at hSw); first | (go_simp; done) | (go_simp; with_reducible rfl))
        simp only [Act.put, List.setIfInBounds_toArray, List.set_cons_zero, List.set_cons_succ]
        refine wpAnyH_take (i := 3) (oi := { dst := some 114, op := Op.load 9 (Operand.tmp 113), type := 9, pos := "law.go:111", after := #[{ on := 2, ground := Ground.data }], guard := none }) (v := ?_) rfl (by kernel_rfl) (by kernel_rfl) (by kernel_rfl) (fun _ _ _ h => h) (Or.inl ⟨by rfl, ?_⟩) (by assumption) ?_
        rotate_left
        · (intro w hSw; (try dsimp only at hSw); first | (go_simp; done) | (go_simp; with_reducible rfl))
        simp only [Act.put, List.setIfInBounds_toArray, List.set_cons_zero, List.set_cons_succ]
        refine wpAnyH_take (i := 4) (oi := { dst := some 115, op := Op.move (Operand.tmp 13), type := 9, pos := "law.go:111", after := #[], guard := none }) (v := ?_) rfl (by kernel_rfl) (by kernel_rfl) (by kernel_rfl) (fun _ _ _ h => h) (Or.inl ⟨by rfl, ?_⟩) (by assumption) ?_
        rotate_left
        · (intro w hSw; (try dsimp only at hSw); first | (go_simp; done) | (go_simp; with_reducible rfl))
        simp only [Act.put, List.setIfInBounds_toArray, List.set_cons_zero, List.set_cons_succ]
        refine wpAnyH_take (i := 5) (oi := { dst := some 116, op := Op.call { callee := Callee.builtin Builtin.len, args := #[Operand.tmp 115], argTypes := #[9] }, type := 3, pos := "law.go:111", after := #[{ on := 4, ground := Ground.data }], guard := none }) (v := ?_) rfl (by kernel_rfl) (by kernel_rfl) (by kernel_rfl) (fun _ _ _ h => h) (Or.inl ⟨by rfl, ?_⟩) (by assumption) ?_
        rotate_left
        · (intro w hSw; (try dsimp only at hSw); first | (go_simp; done) | (go_simp; with_reducible rfl))
        simp only [Act.put, List.setIfInBounds_toArray, List.set_cons_zero, List.set_cons_succ]
        refine wpAnyH_take (i := 6) (oi := { dst := some 117, op := Op.slice 9 (Operand.tmp 114) (some (Operand.tmp 116)) none none, type := 9, pos := "law.go:111", after := #[{ on := 3, ground := Ground.data }, { on := 5, ground := Ground.data }], guard := none }) (v := ?_) rfl (by kernel_rfl) (by kernel_rfl) (by kernel_rfl) (fun _ _ _ h => h) (Or.inl ⟨by rfl, ?_⟩) (by assumption) ?_
        rotate_left
        · (intro w hSw; (try dsimp only at hSw); first | (go_simp; done) | (go_simp; with_reducible rfl))
        simp only [Act.put, List.setIfInBounds_toArray, List.set_cons_zero, List.set_cons_succ]
        refine wpAnyH_ready (rs := [7]) (by kernel_rfl) (by simp) ?_
        refine AllReadyH.cons (i := 7) (o := { dst := some 118, op := Op.call { callee := Callee.value (Operand.func 14), args := #[Operand.tmp 112, Operand.tmp 117], argTypes := #[9, 9] }, type := 44, pos := "law.go:111", after := #[{ on := 1, ground := Ground.data }, { on := 6, ground := Ground.data }], guard := none }) rfl (fun K hK => ?_) AllReadyH.nil
        go_simp
        refine (HDp.out _ (bel_drw BW.out)).mono ?_
        rintro e w3 ⟨v3, rfl, f3, b3⟩
        have F3 := hide f3
        have B3 := hide (chain (bel_drw BW.out) b3)
        obtain ⟨p3, c3, rfl⟩ := files_formP f3
        have k3' := cell_below (show W.drew.cell? _ = _ from k3) b3
        have k4' := cell_below (show W.drew.cell? _ = _ from k4) b3
        clear f3 b3 BW k3 k4
        go_wp2_with fail
        refine hK.out _ _ ?_ (fun hHeld => ?_)
        · exact ⟨k3', k4'⟩
        clear hK K
        refine wpAnyH_take (i := 8) (oi := { dst := some 110, op := Op.move (Operand.tmp 118), type := 44, pos := "law.go:111", after := #[{ on := 7, ground := Ground.data }], guard := none }) (v := ?_) rfl (by kernel_rfl) (by kernel_rfl) (by kernel_rfl) (fun _ _ _ h => h) (Or.inl ⟨by rfl, ?_⟩) (by assumption) ?_
        rotate_left
        · (intro w hSw; (try dsimp only at hSw); first | (go_simp; done) | (go_simp; with_reducible rfl))
        simp only [Act.put, List.setIfInBounds_toArray, List.set_cons_zero, List.set_cons_succ]
        refine wpAnyH_take (i := 9) (oi := { dst := some 119, op := Op.extract (Operand.tmp 110) 0, type := 29, pos := "law.go:111", after := #[{ on := 8, ground := Ground.data }], guard := none }) (v := ?_) rfl (by kernel_rfl) (by kernel_rfl) (by kernel_rfl) (fun _ _ _ h => h) (Or.inl ⟨by rfl, ?_⟩) (by assumption) ?_
        rotate_left
        · (intro w hSw; (try dsimp only at hSw); first | (go_simp; done) | (go_simp; with_reducible rfl))
        simp only [Act.put, List.setIfInBounds_toArray, List.set_cons_zero, List.set_cons_succ]
        refine wpAnyH_take (i := 10) (oi := { dst := some 120, op := Op.extract (Operand.tmp 110) 1, type := 34, pos := "law.go:111", after := #[{ on := 8, ground := Ground.data }, { on := 11, ground := Ground.gcOnly Departure.lateStores }], guard := none }) (v := ?_) rfl (by kernel_rfl) (by kernel_rfl) (by kernel_rfl) (fun _ _ _ h => h) (Or.inl ⟨by rfl, ?_⟩) (by assumption) ?_
        rotate_left
        · (intro w hSw; (try dsimp only at hSw); first | (go_simp; done) | (go_simp; with_reducible rfl))
        simp only [Act.put, List.setIfInBounds_toArray, List.set_cons_zero, List.set_cons_succ]
        refine wpAnyH_take (i := 11) (oi := { dst := some 14, op := Op.assign (Operand.tmp 119), type := 29, pos := "law.go:111", after := #[{ on := 9, ground := Ground.data }, { on := 7, ground := Ground.chain }, { on := 0, ground := Ground.phase }, { on := 1, ground := Ground.phase }, { on := 2, ground := Ground.phase }, { on := 3, ground := Ground.phase }, { on := 4, ground := Ground.phase }, { on := 5, ground := Ground.phase }, { on := 6, ground := Ground.phase }, { on := 7, ground := Ground.phase }, { on := 8, ground := Ground.phase }, { on := 9, ground := Ground.phase }, { on := 10, ground := Ground.textOnly Departure.lateStores }], guard := none }) (v := ?_) rfl (by kernel_rfl) (by kernel_rfl) (by kernel_rfl) (fun _ _ _ h => h) (Or.inl ⟨by rfl, ?_⟩) (by assumption) ?_
        rotate_left
        · (intro w hSw; (try dsimp only at hSw); first | (go_simp; done) | (go_simp; with_reducible rfl))
        simp only [Act.put, List.setIfInBounds_toArray, List.set_cons_zero, List.set_cons_succ]
        refine wpAnyH_take (i := 12) (oi := { dst := some 15, op := Op.assign (Operand.tmp 120), type := 34, pos := "law.go:111", after := #[{ on := 10, ground := Ground.data }, { on := 11, ground := Ground.chain }, { on := 0, ground := Ground.phase }, { on := 1, ground := Ground.phase }, { on := 2, ground := Ground.phase }, { on := 3, ground := Ground.phase }, { on := 4, ground := Ground.phase }, { on := 5, ground := Ground.phase }, { on := 6, ground := Ground.phase }, { on := 7, ground := Ground.phase }, { on := 8, ground := Ground.phase }, { on := 9, ground := Ground.phase }, { on := 10, ground := Ground.phase }, { on := 11, ground := Ground.phase }], guard := none }) (v := ?_) rfl (by kernel_rfl) (by kernel_rfl) (by kernel_rfl) (fun _ _ _ h => h) (Or.inl ⟨by rfl, ?_⟩) (by assumption) ?_
        rotate_left
        · (intro w hSw; (try dsimp only at hSw); first | (go_simp; done) | (go_simp; with_reducible rfl))
        simp only [Act.put, List.setIfInBounds_toArray, List.set_cons_zero, List.set_cons_succ]
        refine wpAnyH_done (by kernel_rfl) ?_ _
        go_wp2_with fail
        refine (HRt.out _ B3.out).mono ?_
        rintro e w4 ⟨v4, rfl, f4, b4⟩
        have F4 := hide f4.files
        have B4 := hide (chain B3.out b4)
        replace F3 := hide (F3.out.below b4)
        obtain ⟨p4, c4, rfl⟩ := files_formP F4.out
        clear f4 b4 B3
        go_wp2_with fail
        refine (HSt.out _ _ _ F3.out F4.out).mono ?_
        rintro e w5 ⟨rfl, b5⟩
        go_wp2_with fail
        go_ret
        exact ⟨rfl, chain B4.out b5⟩
      · obtain rfl := hP
        obtain rfl := h0
        have k0 := KP.out.cell 0 rfl
        have k3 := KP.out.cell 3 rfl
        have k4 := KP.out.cell 4 rfl
        clear HDp HRt HSt BQ
        simp only [sPost, uY] at k0 k3 k4
        go_wp2_with fail
        refine (HDu.out _ BW.out).mono ?_
        rintro e w3 ⟨v3, rfl, f3, b3⟩
        have F3 := hide f3
        have B3 := hide (chain BW.out b3)
        obtain ⟨p3, c3, rfl⟩ := files_formP f3
        clear f3 b3 BW
        go_wp2_with fail
        refine (HRp.out _ B3.out).mono ?_
        rintro e w4 ⟨v4, rfl, f4, b4⟩
        have F4 := hide f4.files
        have B4 := hide (chain B3.out b4)
        replace F3 := hide (F3.out.below b4)
        obtain ⟨p4, c4, rfl⟩ := files_formP F4.out
        clear f4 b4 B3
        go_wp2_with fail
        refine (HSu.out _ _ _ F3.out F4.out).mono ?_
        rintro e w5 ⟨rfl, b5⟩
        go_wp2_with fail
        go_ret
        exact ⟨rfl, chain B4.out b5⟩
      · obtain rfl := hP
        obtain rfl := h0
        have k0 := KP.out.cell 0 rfl
        have k4 := KP.out.cell 4 rfl
        clear HDu HRp HSu HDp HRt HSt BQ
        simp only [sPost, tY] at k0 k4
        go_wp2_with fail
        go_ret
        exact ⟨rfl, BW.out⟩

end Go.Proofs.YtnojgejcmaajmaaGreatDoor
