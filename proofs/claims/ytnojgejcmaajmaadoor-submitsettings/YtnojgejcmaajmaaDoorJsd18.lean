/- The program's settings and its closure, method, bodyKind, Method, Kind of layer 24. The program's functions of layer 24 that its laws call, by the names that the laws' walks use, over the tables that each law's road names. -/
import Derived.Test.YtnojgejcmaajmaaDoorJsd16
import Derived.Test.YtnojgejcmaajmaaDoorJsd22

namespace Go.Proofs.YtnojgejcmaajmaaDoor
open Go.RowKit
set_option maxRecDepth 100000
/-- What a settings' closure has captured. -/
structure ToldC (w : World) (v : Value) (form sub : Int) (fi : Bool) (Bi Bl Bs Bf : Nat) : Prop where
  c1 : w.cell? ⟨Bi, 0, none⟩ = some (.bool fi)
  c2 : w.cell? ⟨Bl, 0, none⟩ = some v
  c3 : w.cell? ⟨Bs, 0, none⟩ = some (.int .i64 sub)
  c4 : w.cell? ⟨Bf, 0, none⟩ = some (.int .i64 form)
theorem ToldC.below {w w' : World} {v : Value} {form sub : Int} {fi : Bool} {Bi Bl Bs Bf : Nat} (h : ToldC w v form sub fi Bi Bl Bs Bf) (hb : Below w.heap.size w w') : ToldC w' v form sub fi Bi Bl Bs Bf :=
  ⟨cell_below h.c1 hb, cell_below h.c2 hb, cell_below h.c3 hb, cell_below h.c4 hb⟩
def metQ (s : ByteArray) : ByteArray := if lowS s = sPost ∨ lowS s = sDia then lowS s else sGet
def knQ (s : ByteArray) : Int := if lowS s = sMul then 2 else if lowS s = sPla then 3 else 1
theorem met_here {l : List Nd} {form sub : Int} (h : hasN l form = true) : metP l form sub = metQ (setP_SubP l form sub sMeO sMe) := by unfold metP metQ; rw [if_pos h]
theorem kn_here {l : List Nd} {form sub : Int} (h : hasN l form = true) : knP l form sub = knQ (setP_SubP l form sub sEnO sEn) := by unfold knP knQ; rw [if_pos h]
theorem fnd_lenB {ax : List (ByteArray × ByteArray)} {B : Nat} (hz : ∀ a ∈ ax, a.2.size ≤ B) (n : ByteArray) : (fndS ax n).size ≤ B := by
  unfold fndS
  split
  · exact Nat.zero_le _
  · rename_i i e
    obtain ⟨hi, _, _⟩ := List.findIdx?_eq_some_iff_getElem.1 (show ax.findIdx? _ = some i from e)
    rw [show ax.getD i at0 = ax[i] by simp [List.getD, hi]]
    exact hz _ (List.getElem_mem hi)
/-- Texts of a right document are short. -/
theorem right_textsB {l : List Nd} (h : Right l) {i : Nat} (hi : i < l.length) : l[i].name.size ≤ 4000 ∧ l[i].text.size ≤ 4000 ∧ (∀ a ∈ l[i].attrs, a.1.size ≤ 4000 ∧ a.2.size ≤ 4000) ∧ l[i].attrs.length ≤ 40 ∧ l[i].kids.length ≤ 400 := by
  have al := h.alone i hi
  have kn := kids_nodup h hi
  have kl := nodup_len l.length _ kn (fun x hx => by have := h.kid i hi x hx; exact ⟨this.1, this.2.1⟩)
  have hl := h.len
  rw [nd_at hi] at al kl
  have NS : ∀ s : ByteArray, nameOk s = true → s.size ≤ 4000 := fun s hs => by
    unfold nameOk at hs
    rw [Bool.and_eq_true, decide_eq_true_eq] at hs
    omega
  by_cases nn : l[i].name.size = 0
  · unfold aloneB at al
    rw [if_pos nn, Bool.and_eq_true, Bool.and_eq_true, decide_eq_true_eq] at al
    have : l[i].attrs = [] := List.isEmpty_iff.1 al.1
    rw [this]
    exact ⟨by omega, al.2.2, (fun a q => by cases q), by simp, by omega⟩
  · have at' := alone_attrs al nn
    unfold aloneB at al
    rw [if_neg nn, Bool.and_eq_true, Bool.and_eq_true, beq_iff_eq] at al
    exact ⟨NS _ al.1, by omega, fun a ha => ⟨NS _ (at'.2.each a ha).1, (at'.2.each a ha).2⟩, at'.1, by omega⟩
theorem set_small {l : List Nd} (hR : Right l) {m : Nat} (hm : m < l.length) (sub : Int) (own other : ByteArray) : (setP_SubP l (m : Int) sub own other).size ≤ 4000 := by
  unfold setP_SubP
  split
  · rename_i q
    rw [Bool.and_eq_true, fires_here, Bool.and_eq_true] at q
    obtain ⟨k, rfl, hk⟩ := here_of q.1.1
    rw [Int.toNat_natCast, nd_at hk]
    exact fnd_lenB (fun a ha => ((right_textsB hR hk).2.2.1 a ha).2) _
  · rw [Int.toNat_natCast, nd_at hm]
    exact fnd_lenB (fun a ha => ((right_textsB hR hm).2.2.1 a ha).2) _
set_option maxHeartbeats 8000000 in
theorem sbTold_any (own other : ByteArray) (v : Value) (l : List Nd) (m : Nat) (sub : Int) (Bi Bl Bs Bf : Nat) (w : World) (hv : NodesV w v l) (hz : DocSz l) (hm : m < l.length) (hc : ToldC w v (m : Int) sub (firesP l sub) Bi Bl Bs Bf) :
    Calls Tryd.prog 35 #[.string own, .string other, .pointer (some ⟨Bi, 0, none⟩), .pointer (some ⟨Bl, 0, none⟩), .pointer (some ⟨Bs, 0, none⟩), .pointer (some ⟨Bf, 0, none⟩)] w fun e w' => e = .returned (.string (setP_SubP l (m : Int) sub own other)) ∧ Below w.heap.size w w' := by
  have E : Hid (setP_SubP l (m : Int) sub own other = if (firesP l sub && hasA (nd l sub.toNat) own) = true then fndS (nd l sub.toNat).attrs own else fndS l[m].attrs other) := by show _ = _; unfold setP_SubP; rw [Int.toNat_natCast, nd_at hm]
  generalize setP_SubP l (m : Int) sub own other = RES at *
  obtain ⟨p, c, rfl⟩ := nds_formW hv
  obtain ⟨b, o, va, pk, nk, ck, rfl, N⟩ := node_ofW hv hm
  have nz := hz.nds _ (List.getElem_mem hm)
  have HG := hide (fun a W (hb : Below w.heap.size w W) => sbFind_any l[m] va pk nk ck a W (N.at_.below hb) nz.attrs)
  obtain ⟨pa, ca, rfl, hxx⟩ := N.at_
  clear hxx
  have c0 := hide N.name
  have c1 := hide N.text
  have c2 := hide N.attrs
  have c3 := hide N.parent
  have c4 := hide N.kids
  have m0 : (0 : Int) ≤ (m : Int) := by omega
  have m1 : (m : Int) < (l.length : Int) := by omega
  clear N nz
  have HGo := hide (fun W hb => HG.out other W hb)
  have x1 := hc.c1
  have x2 := hc.c2
  have x3 := hc.c3
  have x4 := hc.c4
  have B0 : Hid (Below w.heap.size w w) := Below.refl _ _
  clear hc HG
  cases hf : firesP l sub with
  | false =>
    rw [hf, Bool.false_and, if_neg (by decide)] at E
    rw [hf] at x1
    clear hf hv hz x3
    generalize fndS l[m].attrs other = R at *
    generalize hasA l[m] other = ha at *
    generalize l[m].name = n0 at *
    generalize l[m].text = n1 at *
    generalize l[m].parent = n3 at *
    generalize l[m].attrs.length = n5 at *
    have u0 := cell_below c0.out B0.out
    have u1 := cell_below c1.out B0.out
    have u2 := cell_below c2.out B0.out
    have u3 := cell_below c3.out B0.out
    have u4 := cell_below c4.out B0.out
    go_enter Tryd.func35, Tryd.ntmps35
    go_wp2_with fail
    refine (HGo.out _ B0.out).mono ?_
    rintro e w1 ⟨rfl, b1⟩
    have B1 := hide (chain B0.out b1)
    clear b1
    go_wp2_with fail
    go_ret
    exact ⟨ret_str E.out.symm, B1.out⟩
  | true =>
    obtain ⟨q, rfl, hq⟩ : ∃ q : Nat, sub = (q : Int) ∧ q < l.length := by
      rw [fires_here, Bool.and_eq_true] at hf
      exact here_of hf.1
    rw [hf, Bool.true_and, Int.toNat_natCast, nd_at hq] at E
    rw [hf] at x1
    obtain ⟨vaq, pkq, nkq, ckq, Nq⟩ := nodes_ofW hv hq
    have nzq := hz.nds _ (List.getElem_mem hq)
    have HGq := hide (fun a W (hb : Below w.heap.size w W) => sbFind_any l[q] vaq pkq nkq ckq a W (Nq.at_.below hb) nzq.attrs)
    obtain ⟨paq, caq, rfl, hxx⟩ := Nq.at_
    clear hxx
    have s0 := hide Nq.name
    have s1 := hide Nq.text
    have s2 := hide Nq.attrs
    have s3 := hide Nq.parent
    have s4 := hide Nq.kids
    have q0 : (0 : Int) ≤ (q : Int) := by omega
    have q1 : (q : Int) < (l.length : Int) := by omega
    clear Nq nzq
    have HGq2 := hide (fun W hb => HGq.out own W hb)
    clear hf hv hz HGq
    generalize fndS l[m].attrs other = R at *
    generalize hasA l[m] other = ha at *
    generalize fndS l[q].attrs own = Rq at *
    cases hq2 : hasA l[q] own with
    | true =>
      rw [hq2, if_pos rfl] at E
      rw [hq2] at HGq2
      clear hq2 HGo c0 c1 c2 c3 c4
      generalize l[q].name = n0 at *
      generalize l[q].text = n1 at *
      generalize l[q].parent = n3 at *
      generalize l[q].attrs.length = n5 at *
      have u0 := cell_below s0.out B0.out
      have u1 := cell_below s1.out B0.out
      have u2 := cell_below s2.out B0.out
      have u3 := cell_below s3.out B0.out
      have u4 := cell_below s4.out B0.out
      go_enter Tryd.func35, Tryd.ntmps35
      go_wp2_with fail
      refine (HGq2.out _ B0.out).mono ?_
      rintro e w1 ⟨rfl, b1⟩
      have B1 := hide (chain B0.out b1)
      clear b1
      go_wp2_with fail
      go_ret
      exact ⟨ret_str E.out.symm, B1.out⟩
    | false =>
      rw [hq2, if_neg (by decide)] at E
      rw [hq2] at HGq2
      clear hq2
      have u0 := cell_below s0.out B0.out
      have u1 := cell_below s1.out B0.out
      have u2 := cell_below s2.out B0.out
      have u3 := cell_below s3.out B0.out
      have u4 := cell_below s4.out B0.out
      go_enter Tryd.func35, Tryd.ntmps35
      go_wp2_with fail
      refine (HGq2.out _ B0.out).mono ?_
      rintro e w1 ⟨rfl, b1⟩
      have B1 := hide (chain B0.out b1)
      clear b1
      have y1 := cell_below x1 B1.out
      have y2 := cell_below x2 B1.out
      have y3 := cell_below x3 B1.out
      have y4 := cell_below x4 B1.out
      clear u0 u1 u2 u3 u4 x1 x2 x3 x4
      have z0 := cell_below c0.out B1.out
      have z1 := cell_below c1.out B1.out
      have z2 := cell_below c2.out B1.out
      have z3 := cell_below c3.out B1.out
      have z4 := cell_below c4.out B1.out
      go_wp2_with fail
      refine (HGo.out _ B1.out).mono ?_
      rintro e w2 ⟨rfl, b2⟩
      have B2 := hide (chain B1.out b2)
      clear b2
      go_wp2_with fail
      go_ret
      exact ⟨ret_str E.out.symm, B2.out⟩
set_option maxHeartbeats 8000000 in
theorem sbSettings_any (v : Value) (l : List Nd) (m : Nat) (sub : Int) (w : World) (hv : NodesV w v l) (hz : DocSz l) (hT : KTabs w) :
    Calls Tryd.prog 16 #[v, .int .i64 (m : Int), .int .i64 sub] w fun e w' => ∃ Bi Bl Bs Bf, e = .returned (.func (.func 35) #[] #[.pointer (some ⟨Bi, 0, none⟩), .pointer (some ⟨Bl, 0, none⟩), .pointer (some ⟨Bs, 0, none⟩), .pointer (some ⟨Bf, 0, none⟩)]) ∧ ToldC w' v (m : Int) sub (firesP l sub) Bi Bl Bs Bf ∧ Below w.heap.size w w' := by
  have HF := hide (fun W (hb : Below w.heap.size w W) => sbFires_any v l sub W (hv.below hb) hz (hT.below hb))
  generalize firesP l sub = fi at *
  obtain ⟨p, c, rfl⟩ := nds_formW hv
  clear hv hz hT
  go_enter Tryd.func16, Tryd.ntmps16
  go_upto_region 1 with fail
  have K1 : Hid (Bk (((w.alloc (.cells #[.slice p l.length c] 22)).alloc (.cells #[.int .i64 (m : Int)] 3)).alloc (.cells #[.int .i64 sub] 3)) w.heap.size [.slice p l.length c] 22) := ((Bk.new w _ _).below ((Below.refl _ _).alloc (Nat.le_refl _) _)).below ((Below.refl _ _).alloc (Nat.le_refl _) _)
  have K2 : Hid (Bk (((w.alloc (.cells #[.slice p l.length c] 22)).alloc (.cells #[.int .i64 (m : Int)] 3)).alloc (.cells #[.int .i64 sub] 3)) (w.heap.size + 1) [.int .i64 (m : Int)] 3) := by
    have := Bk.new (w.alloc (.cells #[.slice p l.length c] 22)) [.int .i64 (m : Int)] 3
    rw [World.size_alloc] at this
    exact this.below ((Below.refl _ _).alloc (Nat.le_refl _) _)
  have K3 : Hid (Bk (((w.alloc (.cells #[.slice p l.length c] 22)).alloc (.cells #[.int .i64 (m : Int)] 3)).alloc (.cells #[.int .i64 sub] 3)) (w.heap.size + 1 + 1) [.int .i64 sub] 3) := by
    have := Bk.new ((w.alloc (.cells #[.slice p l.length c] 22)).alloc (.cells #[.int .i64 (m : Int)] 3)) [.int .i64 sub] 3
    rw [World.size_alloc, World.size_alloc] at this
    exact this
  have BB : Hid (Below w.heap.size w (((w.alloc (.cells #[.slice p l.length c] 22)).alloc (.cells #[.int .i64 (m : Int)] 3)).alloc (.cells #[.int .i64 sub] 3))) := (((Below.refl _ w).alloc (Nat.le_refl _) _).alloc (by simp) _).alloc (by simp; omega) _
  generalize (((w.alloc (.cells #[.slice p l.length c] 22)).alloc (.cells #[.int .i64 (m : Int)] 3)).alloc (.cells #[.int .i64 sub] 3)) = w0 at *
  generalize w.heap.size + 1 + 1 = n2 at *
  generalize w.heap.size + 1 = n1 at *
  have x1 := K1.out.cell 0 rfl
  have x3 := K3.out.cell 0 rfl
  clear x3 x1
  have x1 := K1.out.cell 0 rfl
  have x2 := K2.out.cell 0 rfl
  have x3 := K3.out.cell 0 rfl
  go_wp2_with fail
  refine (HF.out _ BB.out).mono ?_
  rintro e wa ⟨rfl, bx⟩
  replace BB := hide (chain BB.out bx)
  replace K1 := hide (K1.out.below bx)
  replace K2 := hide (K2.out.below bx)
  replace K3 := hide (K3.out.below bx)
  clear bx HF x1 x2 x3
  have KE := hide (Bk.new wa [.bool fi] 4)
  have B5 : Hid (Below wa.heap.size wa (wa.alloc (.cells #[.bool fi] 4))) := (Below.refl _ _).alloc (Nat.le_refl _) _
  replace K1 := hide (K1.out.below B5.out)
  replace K2 := hide (K2.out.below B5.out)
  replace K3 := hide (K3.out.below B5.out)
  have BF := hide (chain BB.out B5.out)
  clear B5 BB
  go_wp2_with fail
  go_ret
  exact ⟨_, _, _, _, rfl, ⟨KE.out.cell 0 rfl, K1.out.cell 0 rfl, K3.out.cell 0 rfl, K2.out.cell 0 rfl⟩, BF.out⟩
set_option maxHeartbeats 8000000 in
theorem sbMet_any (v : Value) (l : List Nd) (m : Nat) (sub : Int) (Bi Bl Bs Bf : Nat) (w : World) (hv : NodesV w v l) (hz : DocSz l) (hm : m < l.length) (hR : Right l) (hc : ToldC w v (m : Int) sub (firesP l sub) Bi Bl Bs Bf) :
    Calls Tryd.prog 15 #[.func (.func 35) #[] #[.pointer (some ⟨Bi, 0, none⟩), .pointer (some ⟨Bl, 0, none⟩), .pointer (some ⟨Bs, 0, none⟩), .pointer (some ⟨Bf, 0, none⟩)]] w fun e w' => e = .returned (.string (metQ (setP_SubP l (m : Int) sub sMeO sMe))) ∧ Below w.heap.size w w' := by
  have HS := hide (fun W (hb : Below w.heap.size w W) => sbTold_any sMeO sMe v l m sub Bi Bl Bs Bf W (hv.below hb) hz hm (hc.below hb))
  have ZS := set_small hR hm sub sMeO sMe
  have HL := hide (fun W => lower_any (setP_SubP l (m : Int) sub sMeO sMe) W (Nat.le_trans ZS (by decide)))
  rw [show sMeO = ⟨#[102, 111, 114, 109, 109, 101, 116, 104, 111, 100]⟩ from rfl, show sMe = ⟨#[109, 101, 116, 104, 111, 100]⟩ from rfl] at HS
  have E : Hid (metQ (setP_SubP l (m : Int) sub sMeO sMe) = if lowS (setP_SubP l (m : Int) sub sMeO sMe) = sPost ∨ lowS (setP_SubP l (m : Int) sub sMeO sMe) = sDia then lowS (setP_SubP l (m : Int) sub sMeO sMe) else sGet) := rfl
  have HCl := hide (fun W => clone_any ⟨#[103, 101, 116]⟩ W (by decide))
  have e1 : setP_SubP l (m : Int) sub ⟨#[102, 111, 114, 109, 109, 101, 116, 104, 111, 100]⟩ ⟨#[109, 101, 116, 104, 111, 100]⟩ = setP_SubP l (m : Int) sub sMeO sMe := rfl
  rw [e1] at HS
  clear e1 ZS hv hz hm hR hc
  generalize metQ (setP_SubP l (m : Int) sub sMeO sMe) = RES at *
  generalize lowS (setP_SubP l (m : Int) sub sMeO sMe) = s at *
  generalize setP_SubP l (m : Int) sub sMeO sMe = s0 at *
  by_cases h1 : s = sPost
  · have a1 : (s.toList == [112, 111, 115, 116]) = true := lit_yes h1
    rw [if_pos (.inl h1)] at E
    clear h1 HCl
    go_enter Tryd.func15, Tryd.ntmps15
    go_wp2_with fail
    refine (HS.out _ (Below.refl _ _)).mono ?_
    rintro e w1 ⟨rfl, b1⟩
    go_wp2_with fail
    refine (HL.out _).mono ?_
    rintro e w2 ⟨rfl, b2⟩
    have B2 := hide (chain b1 b2)
    clear b1 b2
    go_wp2_with fail
    go_ret
    exact ⟨ret_str E.out.symm, B2.out⟩
  · have a1 : (s.toList == [112, 111, 115, 116]) = false := lit_no h1
    by_cases h2 : s = sDia
    · have a2 : (s.toList == [100, 105, 97, 108, 111, 103]) = true := lit_yes h2
      rw [if_pos (.inr h2)] at E
      clear h1 h2 HCl
      go_enter Tryd.func15, Tryd.ntmps15
      go_wp2_with fail
      refine (HS.out _ (Below.refl _ _)).mono ?_
      rintro e w1 ⟨rfl, b1⟩
      go_wp2_with fail
      refine (HL.out _).mono ?_
      rintro e w2 ⟨rfl, b2⟩
      have B2 := hide (chain b1 b2)
      clear b1 b2
      go_wp2_with fail
      go_ret
      exact ⟨ret_str E.out.symm, B2.out⟩
    · have a2 : (s.toList == [100, 105, 97, 108, 111, 103]) = false := lit_no h2
      rw [if_neg (fun t => t.elim h1 h2)] at E
      clear h1 h2
      go_enter Tryd.func15, Tryd.ntmps15
      go_wp2_with fail
      refine (HS.out _ (Below.refl _ _)).mono ?_
      rintro e w1 ⟨rfl, b1⟩
      go_wp2_with fail
      refine (HL.out _).mono ?_
      rintro e w2 ⟨rfl, b2⟩
      have B2 := hide (chain b1 b2)
      clear b1 b2
      go_wp2_with fail
      refine (HCl.out _).mono ?_
      rintro e w3 ⟨rfl, b3⟩
      go_wp2_with fail
      go_ret
      exact ⟨ret_str E.out.symm, chain B2.out b3⟩
set_option maxHeartbeats 8000000 in
theorem sbKn_any (v : Value) (l : List Nd) (m : Nat) (sub : Int) (Bi Bl Bs Bf : Nat) (w : World) (hv : NodesV w v l) (hz : DocSz l) (hm : m < l.length) (hR : Right l) (hc : ToldC w v (m : Int) sub (firesP l sub) Bi Bl Bs Bf) :
    Calls Tryd.prog 20 #[.func (.func 35) #[] #[.pointer (some ⟨Bi, 0, none⟩), .pointer (some ⟨Bl, 0, none⟩), .pointer (some ⟨Bs, 0, none⟩), .pointer (some ⟨Bf, 0, none⟩)]] w fun e w' => e = .returned (.int .i64 (knQ (setP_SubP l (m : Int) sub sEnO sEn))) ∧ Below w.heap.size w w' := by
  have HS := hide (fun W (hb : Below w.heap.size w W) => sbTold_any sEnO sEn v l m sub Bi Bl Bs Bf W (hv.below hb) hz hm (hc.below hb))
  have ZS := set_small hR hm sub sEnO sEn
  have HL := hide (fun W => lower_any (setP_SubP l (m : Int) sub sEnO sEn) W (Nat.le_trans ZS (by decide)))
  rw [show sEnO = ⟨#[102, 111, 114, 109, 101, 110, 99, 116, 121, 112, 101]⟩ from rfl, show sEn = ⟨#[101, 110, 99, 116, 121, 112, 101]⟩ from rfl] at HS
  have E : Hid (knQ (setP_SubP l (m : Int) sub sEnO sEn) = if lowS (setP_SubP l (m : Int) sub sEnO sEn) = sMul then 2 else if lowS (setP_SubP l (m : Int) sub sEnO sEn) = sPla then 3 else 1) := rfl
  have e1 : setP_SubP l (m : Int) sub ⟨#[102, 111, 114, 109, 101, 110, 99, 116, 121, 112, 101]⟩ ⟨#[101, 110, 99, 116, 121, 112, 101]⟩ = setP_SubP l (m : Int) sub sEnO sEn := rfl
  rw [e1] at HS
  clear e1 ZS hv hz hm hR hc
  generalize knQ (setP_SubP l (m : Int) sub sEnO sEn) = RES at *
  generalize lowS (setP_SubP l (m : Int) sub sEnO sEn) = s at *
  generalize setP_SubP l (m : Int) sub sEnO sEn = s0 at *
  by_cases h1 : s = sMul
  · have a1 : (s.toList == [109, 117, 108, 116, 105, 112, 97, 114, 116, 47, 102, 111, 114, 109, 45, 100, 97, 116, 97]) = true := lit_yes h1
    rw [if_pos h1] at E
    clear h1
    go_enter Tryd.func20, Tryd.ntmps20
    go_wp2_with fail
    refine (HS.out _ (Below.refl _ _)).mono ?_
    rintro e w1 ⟨rfl, b1⟩
    go_wp2_with fail
    refine (HL.out _).mono ?_
    rintro e w2 ⟨rfl, b2⟩
    have B2 := hide (chain b1 b2)
    clear b1 b2
    go_wp2_with fail
    go_ret
    exact ⟨ret_int E.out.symm, B2.out⟩
  · have a1 : (s.toList == [109, 117, 108, 116, 105, 112, 97, 114, 116, 47, 102, 111, 114, 109, 45, 100, 97, 116, 97]) = false := lit_no h1
    rw [if_neg h1] at E
    by_cases h2 : s = sPla
    · have a2 : (s.toList == [116, 101, 120, 116, 47, 112, 108, 97, 105, 110]) = true := lit_yes h2
      rw [if_pos h2] at E
      clear h1 h2
      go_enter Tryd.func20, Tryd.ntmps20
      go_wp2_with fail
      refine (HS.out _ (Below.refl _ _)).mono ?_
      rintro e w1 ⟨rfl, b1⟩
      go_wp2_with fail
      refine (HL.out _).mono ?_
      rintro e w2 ⟨rfl, b2⟩
      have B2 := hide (chain b1 b2)
      clear b1 b2
      go_wp2_with fail
      go_ret
      exact ⟨ret_int E.out.symm, B2.out⟩
    · have a2 : (s.toList == [116, 101, 120, 116, 47, 112, 108, 97, 105, 110]) = false := lit_no h2
      rw [if_neg h2] at E
      clear h1 h2
      go_enter Tryd.func20, Tryd.ntmps20
      go_wp2_with fail
      refine (HS.out _ (Below.refl _ _)).mono ?_
      rintro e w1 ⟨rfl, b1⟩
      go_wp2_with fail
      refine (HL.out _).mono ?_
      rintro e w2 ⟨rfl, b2⟩
      have B2 := hide (chain b1 b2)
      clear b1 b2
      go_wp2_with fail
      go_ret
      exact ⟨ret_int E.out.symm, B2.out⟩
set_option maxHeartbeats 8000000 in
theorem sbMethodK_any (v : Value) (l : List Nd) (form sub : Int) (w : World) (hv : NodesV w v l) (hz : DocSz l) (hT : KTabs w) :
    Calls Tryd.prog 6 #[v, .int .i64 form, .int .i64 sub] w fun e w' => e = .returned (.string (metP l form sub)) ∧ Below w.heap.size w w' := by
  obtain ⟨p, c, rfl⟩ := nds_formW hv
  have HI := hide (fun W => sbIsThere_any p l.length c form W)
  have HR := hide (right_any (.slice p l.length c) l w hv hz)
  cases h : hereB l.length form with
  | false =>
    have E : Hid (metP l form sub = ⟨#[]⟩) := by show _ = _; unfold metP; rw [hasN_here, h]; rfl
    rw [h] at HI
    clear hv hz hT h HR
    go_enter Tryd.func6, Tryd.ntmps6
    go_wp2_with fail
    refine (HI.out _).mono ?_
    rintro e w1 ⟨rfl, hu⟩
    obtain rfl : w = w1 := hu.symm
    go_wp2_with fail
    go_ret
    exact ⟨ret_str E.out.symm, Below.refl _ _⟩
  | true =>
    rw [h] at HI
    cases r : rightB l with
    | false =>
      have E : Hid (metP l form sub = ⟨#[]⟩) := by show _ = _; unfold metP; rw [hasN_here, h, r]; rfl
      rw [r] at HR
      clear hv hz hT h
      go_enter Tryd.func6, Tryd.ntmps6
      go_wp2_with fail
      refine (HI.out _).mono ?_
      rintro e w1 ⟨rfl, hu⟩
      obtain rfl : w = w1 := hu.symm
      go_wp2_with fail
      refine HR.out.mono ?_
      rintro e w2 ⟨rfl, b2⟩
      go_wp2_with fail
      go_ret
      exact ⟨ret_str E.out.symm, b2⟩
    | true =>
      rw [r] at HR
      obtain ⟨m, rfl, hm⟩ := here_of h
      have hN : hasN l (m : Int) = true := by rw [hasN_here, h, r]; rfl
      have HSe := hide (fun W (hb : Below w.heap.size w W) => sbSettings_any (.slice p l.length c) l m sub W (hv.below hb) hz (hT.below hb))
      have HMe := hide (fun Bi Bl Bs Bf W (hb : Below w.heap.size w W) (hc : ToldC W (.slice p l.length c) (m : Int) sub (firesP l sub) Bi Bl Bs Bf) => sbMet_any (.slice p l.length c) l m sub Bi Bl Bs Bf W (hv.below hb) hz hm (right_is.1 r) hc)
      rw [← met_here hN] at HMe
      clear hv hz hT h r hN
      generalize metP l (m : Int) sub = RES at *
      generalize firesP l sub = fi at *
      go_enter Tryd.func6, Tryd.ntmps6
      go_wp2_with fail
      refine (HI.out _).mono ?_
      rintro e w1 ⟨rfl, hu⟩
      obtain rfl : w = w1 := hu.symm
      go_wp2_with fail
      refine HR.out.mono ?_
      rintro e w2 ⟨rfl, b2⟩
      go_wp2_with fail
      refine (HSe.out _ b2).mono ?_
      rintro e w3 ⟨Bi, Bl, Bs, Bf, rfl, hc, b3⟩
      have B3 := hide (chain b2 b3)
      have HC3 := hide hc
      clear b2 b3 hc
      go_wp2_with fail
      refine (HMe.out _ _ _ _ _ B3.out HC3.out).mono ?_
      rintro e w4 ⟨rfl, b4⟩
      go_wp2_with fail
      go_ret
      exact ⟨rfl, chain B3.out b4⟩
set_option maxHeartbeats 8000000 in
theorem sbKindK_any (v : Value) (l : List Nd) (form sub : Int) (w : World) (hv : NodesV w v l) (hz : DocSz l) (hT : KTabs w) :
    Calls Tryd.prog 8 #[v, .int .i64 form, .int .i64 sub] w fun e w' => e = .returned (.int .i64 (knP l form sub)) ∧ Below w.heap.size w w' := by
  obtain ⟨p, c, rfl⟩ := nds_formW hv
  have HI := hide (fun W => sbIsThere_any p l.length c form W)
  have HR := hide (right_any (.slice p l.length c) l w hv hz)
  cases h : hereB l.length form with
  | false =>
    have E : Hid (knP l form sub = 0) := by show _ = _; unfold knP; rw [hasN_here, h]; rfl
    rw [h] at HI
    clear hv hz hT h HR
    go_enter Tryd.func8, Tryd.ntmps8
    go_wp2_with fail
    refine (HI.out _).mono ?_
    rintro e w1 ⟨rfl, hu⟩
    obtain rfl : w = w1 := hu.symm
    go_wp2_with fail
    go_ret
    exact ⟨ret_int E.out.symm, Below.refl _ _⟩
  | true =>
    rw [h] at HI
    cases r : rightB l with
    | false =>
      have E : Hid (knP l form sub = 0) := by show _ = _; unfold knP; rw [hasN_here, h, r]; rfl
      rw [r] at HR
      clear hv hz hT h
      go_enter Tryd.func8, Tryd.ntmps8
      go_wp2_with fail
      refine (HI.out _).mono ?_
      rintro e w1 ⟨rfl, hu⟩
      obtain rfl : w = w1 := hu.symm
      go_wp2_with fail
      refine HR.out.mono ?_
      rintro e w2 ⟨rfl, b2⟩
      go_wp2_with fail
      go_ret
      exact ⟨ret_int E.out.symm, b2⟩
    | true =>
      rw [r] at HR
      obtain ⟨m, rfl, hm⟩ := here_of h
      have hN : hasN l (m : Int) = true := by rw [hasN_here, h, r]; rfl
      have HSe := hide (fun W (hb : Below w.heap.size w W) => sbSettings_any (.slice p l.length c) l m sub W (hv.below hb) hz (hT.below hb))
      have HMe := hide (fun Bi Bl Bs Bf W (hb : Below w.heap.size w W) (hc : ToldC W (.slice p l.length c) (m : Int) sub (firesP l sub) Bi Bl Bs Bf) => sbKn_any (.slice p l.length c) l m sub Bi Bl Bs Bf W (hv.below hb) hz hm (right_is.1 r) hc)
      rw [← kn_here hN] at HMe
      clear hv hz hT h r hN
      generalize knP l (m : Int) sub = RES at *
      generalize firesP l sub = fi at *
      go_enter Tryd.func8, Tryd.ntmps8
      go_wp2_with fail
      refine (HI.out _).mono ?_
      rintro e w1 ⟨rfl, hu⟩
      obtain rfl : w = w1 := hu.symm
      go_wp2_with fail
      refine HR.out.mono ?_
      rintro e w2 ⟨rfl, b2⟩
      go_wp2_with fail
      refine (HSe.out _ b2).mono ?_
      rintro e w3 ⟨Bi, Bl, Bs, Bf, rfl, hc, b3⟩
      have B3 := hide (chain b2 b3)
      have HC3 := hide hc
      clear b2 b3 hc
      go_wp2_with fail
      refine (HMe.out _ _ _ _ _ B3.out HC3.out).mono ?_
      rintro e w4 ⟨rfl, b4⟩
      go_wp2_with fail
      go_ret
      exact ⟨rfl, chain B3.out b4⟩
end Go.Proofs.YtnojgejcmaajmaaDoor

namespace Go.Proofs.YtnojgejcmaajmaaDoor
open Go.RowKit
abbrev SbTabs (w : World) : Prop := KTabs w ∧ SomeMax w
theorem SbTabs.below {w w' : World} (h : SbTabs w) (hb : Below w.heap.size w w') : SbTabs w' := ⟨h.1.below hb, h.2.below hb⟩
theorem SbTabs.mx {w : World} (h : SbTabs w) : SomeMax w := h.2
theorem sbMethod_any (v : Value) (l : List Nd) (form sub : Int) (w : World) (hv : NodesV w v l) (hz : DocSz l) (hT : SbTabs w) :
    Calls Tryd.prog 6 #[v, .int .i64 form, .int .i64 sub] w fun e w' => e = .returned (.string (metP l form sub)) ∧ Below w.heap.size w w' := sbMethodK_any v l form sub w hv hz hT.1
theorem sbKind_any (v : Value) (l : List Nd) (form sub : Int) (w : World) (hv : NodesV w v l) (hz : DocSz l) (hT : SbTabs w) :
    Calls Tryd.prog 8 #[v, .int .i64 form, .int .i64 sub] w fun e w' => e = .returned (.int .i64 (knP l form sub)) ∧ Below w.heap.size w w' := sbKindK_any v l form sub w hv hz hT.1
theorem sbAsks_any (v : Value) (l : List Nd) (form sub : Int) (w : World) (hv : NodesV w v l) (hz : DocSz l) (hT : SbTabs w) :
    Calls Tryd.prog 10 #[v, .int .i64 form, .int .i64 sub] w fun e w' => e = .returned (.bool (askP l form sub)) ∧ Below w.heap.size w w' := sbAsksK_any v l form sub w hv hz hT.1

end Go.Proofs.YtnojgejcmaajmaaDoor
