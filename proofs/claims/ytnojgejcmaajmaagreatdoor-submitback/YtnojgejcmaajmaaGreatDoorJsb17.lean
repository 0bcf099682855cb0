/- The document's Attr, SameFiles, Same of layer 14. The program's settings and its closure, method, bodyKind, Method, Kind of layer 24. The document's Encode, Split of layer 21. The document's Encode of layer 19. The document's Of of layer 21. The plan of a form, as a function of documents, entries and draws. The program's Escapes and the document's answer by the same function of a set and a byte. The program's Escapes answers by escB, for every set and byte. The program's Encode and the document's answer by the same function of lists of bytes. The program's Form and Unform answer by functions of lists of bytes. A row of entries of the call's own outlives other writes. The program's Encode of layer 19. What strings.Contains, Cut, Split, CutPrefix, CutSuffix, ReplaceAll answer. -/
import Derived.Test.YtnojgejcmaajmaaGreatDoorJsb5
import Derived.Test.YtnojgejcmaajmaaGreatDoorJsb21
import Derived.Test.YtnojgejcmaajmaaGreatDoorJsb24
import Derived.Test.YtnojgejcmaajmaaGreatDoorJsb25
import Derived.Test.YtnojgejcmaajmaaGreatDoorJsb26

namespace Go.Proofs.YtnojgejcmaajmaaGreatDoor
open Go.RowKit
set_option maxRecDepth 100000
theorem belR {B : Nat} {a w : World} (h : Below B a w) (n : Nat) : Below B a (w.drewN n) := ⟨h.os, h.tape, h.output, h.size, h.block⟩
end Go.Proofs.YtnojgejcmaajmaaGreatDoor

namespace Go.Proofs.YtnojgejcmaajmaaGreatDoor
open Go.RowKit
set_option maxRecDepth 100000
def metQ (s : ByteArray) : ByteArray := if lowS s = sPost ∨ lowS s = sDia then lowS s else sGet
def knQ (s : ByteArray) : Int := if lowS s = sMul then 2 else if lowS s = sPla then 3 else 1
theorem met_here {l : List Nd} {form sub : Int} (h : hasN l form = true) : metP l form sub = metQ (setP_SubP l form sub sMeO sMe) := by unfold metP metQ; rw [if_pos h]
theorem kn_here {l : List Nd} {form sub : Int} (h : hasN l form = true) : knP l form sub = knQ (setP_SubP l form sub sEnO sEn) := by unfold knP knQ; rw [if_pos h]
theorem fnd_lenB {ax : List (ByteArray × ByteArray)} {B : Nat} (hz : ∀ a ∈ ax, a.2.size ≤ B) (n : ByteArray) : (fndS ax n).size ≤ B := by
  unfold fndS
  split
  · exact Nat.zero_le _
  · rename_i i e
    obtain ⟨hi, _, _⟩ := List.findIdx?_eq_some_iff_getElem.1 (show ax.findIdx? _ = some i from e)
    rw [show ax.getD i at0 = ax[i] by simp [List.getD, hi]]
    exact hz _ (List.getElem_mem hi)
/-- Texts of a right document are short. -/
theorem right_textsB {l : List Nd} (h : Right l) {i : Nat} (hi : i < l.length) : l[i].name.size ≤ 4000 ∧ l[i].text.size ≤ 4000 ∧ (∀ a ∈ l[i].attrs, a.1.size ≤ 4000 ∧ a.2.size ≤ 4000) ∧ l[i].attrs.length ≤ 40 ∧ l[i].kids.length ≤ 400 := by
  have al := h.alone i hi
  have kn := kids_nodup h hi
  have kl := nodup_len l.length _ kn (fun x hx => by have := h.kid i hi x hx; exact ⟨this.1, this.2.1⟩)
  have hl := h.len
  rw [nd_at hi] at al kl
  have NS : ∀ s : ByteArray, nameOk s = true → s.size ≤ 4000 := fun s hs => by
    unfold nameOk at hs
    rw [Bool.and_eq_true, decide_eq_true_eq] at hs
    omega
  by_cases nn : l[i].name.size = 0
  · unfold aloneB at al
    rw [if_pos nn, Bool.and_eq_true, Bool.and_eq_true, decide_eq_true_eq] at al
    have : l[i].attrs = [] := List.isEmpty_iff.1 al.1
    rw [this]
    exact ⟨by omega, al.2.2, (fun a q => by cases q), by simp, by omega⟩
  · have at' := alone_attrs al nn
    unfold aloneB at al
    rw [if_neg nn, Bool.and_eq_true, Bool.and_eq_true, beq_iff_eq] at al
    exact ⟨NS _ al.1, by omega, fun a ha => ⟨NS _ (at'.2.each a ha).1, (at'.2.each a ha).2⟩, at'.1, by omega⟩
theorem set_small {l : List Nd} (hR : Right l) {m : Nat} (hm : m < l.length) (sub : Int) (own other : ByteArray) : (setP_SubP l (m : Int) sub own other).size ≤ 4000 := by
  unfold setP_SubP
  split
  · rename_i q
    rw [Bool.and_eq_true, fires_here, Bool.and_eq_true] at q
    obtain ⟨k, rfl, hk⟩ := here_of q.1.1
    rw [Int.toNat_natCast, nd_at hk]
    exact fnd_lenB (fun a ha => ((right_textsB hR hk).2.2.1 a ha).2) _
  · rw [Int.toNat_natCast, nd_at hm]
    exact fnd_lenB (fun a ha => ((right_textsB hR hm).2.2.1 a ha).2) _
set_option maxHeartbeats 8000000 in
theorem sbTold_any (own other : ByteArray) (v : Value) (l : List Nd) (m : Nat) (sub : Int) (Bi Bl Bs Bf : Nat) (w : World) (hv : NodesV w v l) (hz : DocSz l) (hm : m < l.length) (hc : ToldC w v (m : Int) sub (firesP l sub) Bi Bl Bs Bf) :
    Calls Tryz.prog 75 #[.string own, .string other, .pointer (some ⟨Bi, 0, none⟩), .pointer (some ⟨Bl, 0, none⟩), .pointer (some ⟨Bs, 0, none⟩), .pointer (some ⟨Bf, 0, none⟩)] w fun e w' => e = .returned (.string (setP_SubP l (m : Int) sub own other)) ∧ Below w.heap.size w w' := by
  have E : Hid (setP_SubP l (m : Int) sub own other = if (firesP l sub && hasA (nd l sub.toNat) own) = true then fndS (nd l sub.toNat).attrs own else fndS l[m].attrs other) := by show _ = _; unfold setP_SubP; rw [Int.toNat_natCast, nd_at hm]
  generalize setP_SubP l (m : Int) sub own other = RES at *
  obtain ⟨p, c, rfl⟩ := nds_formW hv
  obtain ⟨b, o, va, pk, nk, ck, rfl, N⟩ := node_ofW hv hm
  have nz := hz.nds _ (List.getElem_mem hm)
  have HG := hide (fun a W (hb : Below w.heap.size w W) => sbFind_any l[m] va pk nk ck a W (N.at_.below hb) nz.attrs)
  obtain ⟨pa, ca, rfl, hxx⟩ := N.at_
  clear hxx
  have c0 := hide N.name
  have c1 := hide N.text
  have c2 := hide N.attrs
  have c3 := hide N.parent
  have c4 := hide N.kids
  have m0 : (0 : Int) ≤ (m : Int) := by omega
  have m1 : (m : Int) < (l.length : Int) := by omega
  clear N nz
  have HGo := hide (fun W hb => HG.out other W hb)
  have x1 := hc.c1
  have x2 := hc.c2
  have x3 := hc.c3
  have x4 := hc.c4
  have B0 : Hid (Below w.heap.size w w) := Below.refl _ _
  clear hc HG
  cases hf : firesP l sub with
  | false =>
    rw [hf, Bool.false_and, if_neg (by decide)] at E
    rw [hf] at x1
    clear hf hv hz x3
    generalize fndS l[m].attrs other = R at *
    generalize hasA l[m] other = ha at *
    generalize l[m].name = n0 at *
    generalize l[m].text = n1 at *
    generalize l[m].parent = n3 at *
    generalize l[m].attrs.length = n5 at *
    have u0 := cell_below c0.out B0.out
    have u1 := cell_below c1.out B0.out
    have u2 := cell_below c2.out B0.out
    have u3 := cell_below c3.out B0.out
    have u4 := cell_below c4.out B0.out
    go_enter Tryz.func75, Tryz.ntmps75
    go_wp2_with fail
    refine (HGo.out _ B0.out).mono ?_
    rintro e w1 ⟨rfl, b1⟩
    have B1 := hide (chain B0.out b1)
    clear b1
    go_wp2_with fail
    go_ret
    exact ⟨ret_str E.out.symm, B1.out⟩
  | true =>
    obtain ⟨q, rfl, hq⟩ : ∃ q : Nat, sub = (q : Int) ∧ q < l.length := by
      rw [fires_here, Bool.and_eq_true] at hf
      exact here_of hf.1
    rw [hf, Bool.true_and, Int.toNat_natCast, nd_at hq] at E
    rw [hf] at x1
    obtain ⟨vaq, pkq, nkq, ckq, Nq⟩ := nodes_ofW hv hq
    have nzq := hz.nds _ (List.getElem_mem hq)
    have HGq := hide (fun a W (hb : Below w.heap.size w W) => sbFind_any l[q] vaq pkq nkq ckq a W (Nq.at_.below hb) nzq.attrs)
    obtain ⟨paq, caq, rfl, hxx⟩ := Nq.at_
    clear hxx
    have s0 := hide Nq.name
    have s1 := hide Nq.text
    have s2 := hide Nq.attrs
    have s3 := hide Nq.parent
    have s4 := hide Nq.kids
    have q0 : (0 : Int) ≤ (q : Int) := by omega
    have q1 : (q : Int) < (l.length : Int) := by omega
    clear Nq nzq
    have HGq2 := hide (fun W hb => HGq.out own W hb)
    clear hf hv hz HGq
    generalize fndS l[m].attrs other = R at *
    generalize hasA l[m] other = ha at *
    generalize fndS l[q].attrs own = Rq at *
    cases hq2 : hasA l[q] own with
    | true =>
      rw [hq2, if_pos rfl] at E
      rw [hq2] at HGq2
      clear hq2 HGo c0 c1 c2 c3 c4
      generalize l[q].name = n0 at *
      generalize l[q].text = n1 at *
      generalize l[q].parent = n3 at *
      generalize l[q].attrs.length = n5 at *
      have u0 := cell_below s0.out B0.out
      have u1 := cell_below s1.out B0.out
      have u2 := cell_below s2.out B0.out
      have u3 := cell_below s3.out B0.out
      have u4 := cell_below s4.out B0.out
      go_enter Tryz.func75, Tryz.ntmps75
      go_wp2_with fail
      refine (HGq2.out _ B0.out).mono ?_
      rintro e w1 ⟨rfl, b1⟩
      have B1 := hide (chain B0.out b1)
      clear b1
      go_wp2_with fail
      go_ret
      exact ⟨ret_str E.out.symm, B1.out⟩
    | false =>
      rw [hq2, if_neg (by decide)] at E
      rw [hq2] at HGq2
      clear hq2
      have u0 := cell_below s0.out B0.out
      have u1 := cell_below s1.out B0.out
      have u2 := cell_below s2.out B0.out
      have u3 := cell_below s3.out B0.out
      have u4 := cell_below s4.out B0.out
      go_enter Tryz.func75, Tryz.ntmps75
      go_wp2_with fail
      refine (HGq2.out _ B0.out).mono ?_
      rintro e w1 ⟨rfl, b1⟩
      have B1 := hide (chain B0.out b1)
      clear b1
      have y1 := cell_below x1 B1.out
      have y2 := cell_below x2 B1.out
      have y3 := cell_below x3 B1.out
      have y4 := cell_below x4 B1.out
      clear u0 u1 u2 u3 u4 x1 x2 x3 x4
      have z0 := cell_below c0.out B1.out
      have z1 := cell_below c1.out B1.out
      have z2 := cell_below c2.out B1.out
      have z3 := cell_below c3.out B1.out
      have z4 := cell_below c4.out B1.out
      go_wp2_with fail
      refine (HGo.out _ B1.out).mono ?_
      rintro e w2 ⟨rfl, b2⟩
      have B2 := hide (chain B1.out b2)
      clear b2
      go_wp2_with fail
      go_ret
      exact ⟨ret_str E.out.symm, B2.out⟩
set_option maxHeartbeats 8000000 in
theorem sbSettings_any (v : Value) (l : List Nd) (m : Nat) (sub : Int) (w : World) (hv : NodesV w v l) (hz : DocSz l) (hT : KTabs w) :
    Calls Tryz.prog 24 #[v, .int .i64 (m : Int), .int .i64 sub] w fun e w' => ∃ Bi Bl Bs Bf, e = .returned (.func (.func 75) #[] #[.pointer (some ⟨Bi, 0, none⟩), .pointer (some ⟨Bl, 0, none⟩), .pointer (some ⟨Bs, 0, none⟩), .pointer (some ⟨Bf, 0, none⟩)]) ∧ ToldC w' v (m : Int) sub (firesP l sub) Bi Bl Bs Bf ∧ Below w.heap.size w w' := by
  have HF := hide (fun W (hb : Below w.heap.size w W) => sbFires_any v l sub W (hv.below hb) hz (hT.below hb))
  generalize firesP l sub = fi at *
  obtain ⟨p, c, rfl⟩ := nds_formW hv
  clear hv hz hT
  go_enter Tryz.func24, Tryz.ntmps24
  go_upto_region 1 with fail
  have K1 : Hid (Bk (((w.alloc (.cells #[.slice p l.length c] 22)).alloc (.cells #[.int .i64 (m : Int)] 3)).alloc (.cells #[.int .i64 sub] 3)) w.heap.size [.slice p l.length c] 22) := ((Bk.new w _ _).below ((Below.refl _ _).alloc (Nat.le_refl _) _)).below ((Below.refl _ _).alloc (Nat.le_refl _) _)
  have K2 : Hid (Bk (((w.alloc (.cells #[.slice p l.length c] 22)).alloc (.cells #[.int .i64 (m : Int)] 3)).alloc (.cells #[.int .i64 sub] 3)) (w.heap.size + 1) [.int .i64 (m : Int)] 3) := by
    have := Bk.new (w.alloc (.cells #[.slice p l.length c] 22)) [.int .i64 (m : Int)] 3
    rw [World.size_alloc] at this
    exact this.below ((Below.refl _ _).alloc (Nat.le_refl _) _)
  have K3 : Hid (Bk (((w.alloc (.cells #[.slice p l.length c] 22)).alloc (.cells #[.int .i64 (m : Int)] 3)).alloc (.cells #[.int .i64 sub] 3)) (w.heap.size + 1 + 1) [.int .i64 sub] 3) := by
    have := Bk.new ((w.alloc (.cells #[.slice p l.length c] 22)).alloc (.cells #[.int .i64 (m : Int)] 3)) [.int .i64 sub] 3
    rw [World.size_alloc, World.size_alloc] at this
    exact this
  have BB : Hid (Below w.heap.size w (((w.alloc (.cells #[.slice p l.length c] 22)).alloc (.cells #[.int .i64 (m : Int)] 3)).alloc (.cells #[.int .i64 sub] 3))) := (((Below.refl _ w).alloc (Nat.le_refl _) _).alloc (by simp) _).alloc (by simp; omega) _
  generalize (((w.alloc (.cells #[.slice p l.length c] 22)).alloc (.cells #[.int .i64 (m : Int)] 3)).alloc (.cells #[.int .i64 sub] 3)) = w0 at *
  generalize w.heap.size + 1 + 1 = n2 at *
  generalize w.heap.size + 1 = n1 at *
  have x1 := K1.out.cell 0 rfl
  have x3 := K3.out.cell 0 rfl
  clear x3 x1
  have x1 := K1.out.cell 0 rfl
  have x2 := K2.out.cell 0 rfl
  have x3 := K3.out.cell 0 rfl
  go_wp2_with fail
  refine (HF.out _ BB.out).mono ?_
  rintro e wa ⟨rfl, bx⟩
  replace BB := hide (chain BB.out bx)
  replace K1 := hide (K1.out.below bx)
  replace K2 := hide (K2.out.below bx)
  replace K3 := hide (K3.out.below bx)
  clear bx HF x1 x2 x3
  have KE := hide (Bk.new wa [.bool fi] 4)
  have B5 : Hid (Below wa.heap.size wa (wa.alloc (.cells #[.bool fi] 4))) := (Below.refl _ _).alloc (Nat.le_refl _) _
  replace K1 := hide (K1.out.below B5.out)
  replace K2 := hide (K2.out.below B5.out)
  replace K3 := hide (K3.out.below B5.out)
  have BF := hide (chain BB.out B5.out)
  clear B5 BB
  go_wp2_with fail
  go_ret
  exact ⟨_, _, _, _, rfl, ⟨KE.out.cell 0 rfl, K1.out.cell 0 rfl, K3.out.cell 0 rfl, K2.out.cell 0 rfl⟩, BF.out⟩
set_option maxHeartbeats 8000000 in
theorem sbMet_any (v : Value) (l : List Nd) (m : Nat) (sub : Int) (Bi Bl Bs Bf : Nat) (w : World) (hv : NodesV w v l) (hz : DocSz l) (hm : m < l.length) (hR : Right l) (hc : ToldC w v (m : Int) sub (firesP l sub) Bi Bl Bs Bf) :
    Calls Tryz.prog 25 #[.func (.func 75) #[] #[.pointer (some ⟨Bi, 0, none⟩), .pointer (some ⟨Bl, 0, none⟩), .pointer (some ⟨Bs, 0, none⟩), .pointer (some ⟨Bf, 0, none⟩)]] w fun e w' => e = .returned (.string (metQ (setP_SubP l (m : Int) sub sMeO sMe))) ∧ Below w.heap.size w w' := by
  have HS := hide (fun W (hb : Below w.heap.size w W) => sbTold_any sMeO sMe v l m sub Bi Bl Bs Bf W (hv.below hb) hz hm (hc.below hb))
  have ZS := set_small hR hm sub sMeO sMe
  have HL := hide (fun W => lower_any (setP_SubP l (m : Int) sub sMeO sMe) W (Nat.le_trans ZS (by decide)))
  rw [show sMeO = ⟨#[102, 111, 114, 109, 109, 101, 116, 104, 111, 100]⟩ from rfl, show sMe = ⟨#[109, 101, 116, 104, 111, 100]⟩ from rfl] at HS
  have E : Hid (metQ (setP_SubP l (m : Int) sub sMeO sMe) = if lowS (setP_SubP l (m : Int) sub sMeO sMe) = sPost ∨ lowS (setP_SubP l (m : Int) sub sMeO sMe) = sDia then lowS (setP_SubP l (m : Int) sub sMeO sMe) else sGet) := rfl
  have HCl := hide (fun W => clone_any ⟨#[103, 101, 116]⟩ W (by decide))
  have e1 : setP_SubP l (m : Int) sub ⟨#[102, 111, 114, 109, 109, 101, 116, 104, 111, 100]⟩ ⟨#[109, 101, 116, 104, 111, 100]⟩ = setP_SubP l (m : Int) sub sMeO sMe := rfl
  rw [e1] at HS
  clear e1 ZS hv hz hm hR hc
  generalize metQ (setP_SubP l (m : Int) sub sMeO sMe) = RES at *
  generalize lowS (setP_SubP l (m : Int) sub sMeO sMe) = s at *
  generalize setP_SubP l (m : Int) sub sMeO sMe = s0 at *
  by_cases h1 : s = sPost
  · have a1 : (s.toList == [112, 111, 115, 116]) = true := lit_yes h1
    rw [if_pos (.inl h1)] at E
    clear h1 HCl
    go_enter Tryz.func25, Tryz.ntmps25
    go_wp2_with fail
    refine (HS.out _ (Below.refl _ _)).mono ?_
    rintro e w1 ⟨rfl, b1⟩
    go_wp2_with fail
    refine (HL.out _).mono ?_
    rintro e w2 ⟨rfl, b2⟩
    have B2 := hide (chain b1 b2)
    clear b1 b2
    go_wp2_with fail
    go_ret
    exact ⟨ret_str E.out.symm, B2.out⟩
  · have a1 : (s.toList == [112, 111, 115, 116]) = false := lit_no h1
    by_cases h2 : s = sDia
    · have a2 : (s.toList == [100, 105, 97, 108, 111, 103]) = true := lit_yes h2
      rw [if_pos (.inr h2)] at E
      clear h1 h2 HCl
      go_enter Tryz.func25, Tryz.ntmps25
      go_wp2_with fail
      refine (HS.out _ (Below.refl _ _)).mono ?_
      rintro e w1 ⟨rfl, b1⟩
      go_wp2_with fail
      refine (HL.out _).mono ?_
      rintro e w2 ⟨rfl, b2⟩
      have B2 := hide (chain b1 b2)
      clear b1 b2
      go_wp2_with fail
      go_ret
      exact ⟨ret_str E.out.symm, B2.out⟩
    · have a2 : (s.toList == [100, 105, 97, 108, 111, 103]) = false := lit_no h2
      rw [if_neg (fun t => t.elim h1 h2)] at E
      clear h1 h2
      go_enter Tryz.func25, Tryz.ntmps25
      go_wp2_with fail
      refine (HS.out _ (Below.refl _ _)).mono ?_
      rintro e w1 ⟨rfl, b1⟩
      go_wp2_with fail
      refine (HL.out _).mono ?_
      rintro e w2 ⟨rfl, b2⟩
      have B2 := hide (chain b1 b2)
      clear b1 b2
      go_wp2_with fail
      refine (HCl.out _).mono ?_
      rintro e w3 ⟨rfl, b3⟩
      go_wp2_with fail
      go_ret
      exact ⟨ret_str E.out.symm, chain B2.out b3⟩
set_option maxHeartbeats 8000000 in
theorem sbKn_any (v : Value) (l : List Nd) (m : Nat) (sub : Int) (Bi Bl Bs Bf : Nat) (w : World) (hv : NodesV w v l) (hz : DocSz l) (hm : m < l.length) (hR : Right l) (hc : ToldC w v (m : Int) sub (firesP l sub) Bi Bl Bs Bf) :
    Calls Tryz.prog 28 #[.func (.func 75) #[] #[.pointer (some ⟨Bi, 0, none⟩), .pointer (some ⟨Bl, 0, none⟩), .pointer (some ⟨Bs, 0, none⟩), .pointer (some ⟨Bf, 0, none⟩)]] w fun e w' => e = .returned (.int .i64 (knQ (setP_SubP l (m : Int) sub sEnO sEn))) ∧ Below w.heap.size w w' := by
  have HS := hide (fun W (hb : Below w.heap.size w W) => sbTold_any sEnO sEn v l m sub Bi Bl Bs Bf W (hv.below hb) hz hm (hc.below hb))
  have ZS := set_small hR hm sub sEnO sEn
  have HL := hide (fun W => lower_any (setP_SubP l (m : Int) sub sEnO sEn) W (Nat.le_trans ZS (by decide)))
  rw [show sEnO = ⟨#[102, 111, 114, 109, 101, 110, 99, 116, 121, 112, 101]⟩ from rfl, show sEn = ⟨#[101, 110, 99, 116, 121, 112, 101]⟩ from rfl] at HS
  have E : Hid (knQ (setP_SubP l (m : Int) sub sEnO sEn) = if lowS (setP_SubP l (m : Int) sub sEnO sEn) = sMul then 2 else if lowS (setP_SubP l (m : Int) sub sEnO sEn) = sPla then 3 else 1) := rfl
  have e1 : setP_SubP l (m : Int) sub ⟨#[102, 111, 114, 109, 101, 110, 99, 116, 121, 112, 101]⟩ ⟨#[101, 110, 99, 116, 121, 112, 101]⟩ = setP_SubP l (m : Int) sub sEnO sEn := rfl
  rw [e1] at HS
  clear e1 ZS hv hz hm hR hc
  generalize knQ (setP_SubP l (m : Int) sub sEnO sEn) = RES at *
  generalize lowS (setP_SubP l (m : Int) sub sEnO sEn) = s at *
  generalize setP_SubP l (m : Int) sub sEnO sEn = s0 at *
  by_cases h1 : s = sMul
  · have a1 : (s.toList == [109, 117, 108, 116, 105, 112, 97, 114, 116, 47, 102, 111, 114, 109, 45, 100, 97, 116, 97]) = true := lit_yes h1
    rw [if_pos h1] at E
    clear h1
    go_enter Tryz.func28, Tryz.ntmps28
    go_wp2_with fail
    refine (HS.out _ (Below.refl _ _)).mono ?_
    rintro e w1 ⟨rfl, b1⟩
    go_wp2_with fail
    refine (HL.out _).mono ?_
    rintro e w2 ⟨rfl, b2⟩
    have B2 := hide (chain b1 b2)
    clear b1 b2
    go_wp2_with fail
    go_ret
    exact ⟨ret_int E.out.symm, B2.out⟩
  · have a1 : (s.toList == [109, 117, 108, 116, 105, 112, 97, 114, 116, 47, 102, 111, 114, 109, 45, 100, 97, 116, 97]) = false := lit_no h1
    rw [if_neg h1] at E
    by_cases h2 : s = sPla
    · have a2 : (s.toList == [116, 101, 120, 116, 47, 112, 108, 97, 105, 110]) = true := lit_yes h2
      rw [if_pos h2] at E
      clear h1 h2
      go_enter Tryz.func28, Tryz.ntmps28
      go_wp2_with fail
      refine (HS.out _ (Below.refl _ _)).mono ?_
      rintro e w1 ⟨rfl, b1⟩
      go_wp2_with fail
      refine (HL.out _).mono ?_
      rintro e w2 ⟨rfl, b2⟩
      have B2 := hide (chain b1 b2)
      clear b1 b2
      go_wp2_with fail
      go_ret
      exact ⟨ret_int E.out.symm, B2.out⟩
    · have a2 : (s.toList == [116, 101, 120, 116, 47, 112, 108, 97, 105, 110]) = false := lit_no h2
      rw [if_neg h2] at E
      clear h1 h2
      go_enter Tryz.func28, Tryz.ntmps28
      go_wp2_with fail
      refine (HS.out _ (Below.refl _ _)).mono ?_
      rintro e w1 ⟨rfl, b1⟩
      go_wp2_with fail
      refine (HL.out _).mono ?_
      rintro e w2 ⟨rfl, b2⟩
      have B2 := hide (chain b1 b2)
      clear b1 b2
      go_wp2_with fail
      go_ret
      exact ⟨ret_int E.out.symm, B2.out⟩
end Go.Proofs.YtnojgejcmaajmaaGreatDoor

namespace Go.Proofs.YtnojgejcmaajmaaGreatDoor
open Go.RowKit
set_option maxRecDepth 100000
/-- .. as one step of a statement that draws its order. -/
def enN (p : List En) (k : Nat) : List UInt8 := (p.take k).flatMap fun e => plnL e ++ [13, 10]
theorem enN_next {p : List En} {k : Nat} (h : k < p.length) : enN p (k + 1) = (((enN p k ++ bL p[k].name) ++ [61]) ++ bL p[k].val) ++ [13, 10] := by
  unfold enN
  rw [List.take_succ_eq_append_getElem h, List.flatMap_append]
  show _ ++ (plnL p[k] ++ [13, 10] ++ []) = _
  unfold plnL
  simp
theorem enN_len {p : List En} {m : Nat} (hp : ∀ e ∈ p, e.name.size ≤ m ∧ e.val.size ≤ m) (hl : p.length ≤ 200) (k : Nat) : (enN p k).length ≤ 200 * (2 * m + 3) := by
  have A : ∀ q : List En, (∀ e ∈ q, e.name.size ≤ m ∧ e.val.size ≤ m) → (q.flatMap fun e => plnL e ++ [13, 10]).length ≤ q.length * (2 * m + 3) := by
    intro q
    induction q with
    | nil => intro _; simp
    | cons e q ih =>
      intro hq
      have i1 := ih (fun x hx => hq x (List.mem_cons_of_mem _ hx))
      have i2 := hq e List.mem_cons_self
      have i3 := pln_len e
      have i4 : (e :: q).length * (2 * m + 3) = q.length * (2 * m + 3) + 1 * (2 * m + 3) := Nat.add_mul _ _ _
      rw [List.flatMap_cons, List.length_append, List.length_append, i3, i4]
      show _ + 2 + _ ≤ _
      omega
  have h1 := A (p.take k) (fun e he => hp e (List.mem_of_mem_take he))
  have h2 : (p.take k).length ≤ 200 := by rw [List.length_take]; omega
  exact Nat.le_trans h1 (Nat.mul_le_mul_right _ h2)
theorem plain_sizesN {l : List En} {n : Nat} (h : EnsOK n l) : ∀ e ∈ plainU l, e.name.size ≤ 2 * n ∧ e.val.size ≤ 2 * n := by
  intro e he
  obtain ⟨x, hx, rfl⟩ := List.mem_map.1 he
  exact pl_size (h.ent x hx)
end Go.Proofs.YtnojgejcmaajmaaGreatDoor

namespace Go.Proofs.YtnojgejcmaajmaaGreatDoor
open Go.RowKit
set_option maxRecDepth 100000
/-- What is told of the first k entries. -/
def encT (p : List En) (k : Nat) : List UInt8 := joinL 38 ((p.take k).map encE)
theorem encT_first {p : List En} (h : 0 < p.length) : encT p 1 = (([] ++ formL p[0].name.data.toList) ++ [(61 : UInt8)]) ++ formL p[0].val.data.toList := by
  unfold encT
  rw [List.take_succ_eq_append_getElem h]
  show encE p[0] = _
  unfold encE
  simp
theorem encT_next {p : List En} {k : Nat} (h : k < p.length) (h0 : 0 < k) : encT p (k + 1) = (((encT p k ++ [(38 : UInt8)]) ++ formL p[k].name.data.toList) ++ [(61 : UInt8)]) ++ formL p[k].val.data.toList := by
  unfold encT
  rw [List.take_succ_eq_append_getElem h, List.map_append]
  show joinL 38 (_ ++ [encE p[k]]) = _
  rw [join_snoc _ _ _ (by
    intro t
    have := congrArg List.length t
    rw [List.length_map, List.length_take, List.length_nil] at this
    omega)]
  unfold encE
  simp
theorem encT_len {p : List En} {m : Nat} (hp : ∀ e ∈ p, e.name.size ≤ m ∧ e.val.size ≤ m) (hl : p.length ≤ 200) (k : Nat) : (encT p k).length ≤ 200 * (6 * m + 1) + 200 := by
  unfold encT
  refine Nat.le_trans (join_len _ _) ?_
  have h1 : (((p.take k).map encE).map List.length).sum ≤ (p.take k).length * (6 * m + 1) := by
    rw [List.map_map]
    refine sum_le _ _ _ (fun e he => ?_)
    have q := encE_len e
    have := hp e (List.mem_of_mem_take he)
    show (encE e).length ≤ _
    omega
  have h2 : ((p.take k).map encE).length = (p.take k).length := by simp
  have h3 : (p.take k).length ≤ 200 := by rw [List.length_take]; omega
  have h4 : (p.take k).length * (6 * m + 1) ≤ 200 * (6 * m + 1) := Nat.mul_le_mul_right _ h3
  omega
theorem formS_len (s : ByteArray) : (formS s).size ≤ 3 * s.size := by
  have := formL_len s.data.toList
  have e : (formS s).size = (formL s.data.toList).length := rfl
  rw [e]
  simpa using this
theorem plain_sizes {l : List En} {n : Nat} (h : EnsOK n l) : ∀ e ∈ plainU l, e.name.size ≤ 2 * n ∧ e.val.size ≤ 2 * n := by
  intro e he
  obtain ⟨x, hx, rfl⟩ := List.mem_map.1 he
  exact pl_size (h.ent x hx)
end Go.Proofs.YtnojgejcmaajmaaGreatDoor

namespace Go.Proofs.YtnojgejcmaajmaaGreatDoor
open Go.RowKit
set_option maxRecDepth 100000
def uY : ByteArray := ⟨#[97, 112, 112, 108, 105, 99, 97, 116, 105, 111, 110, 47, 120, 45, 119, 119, 119, 45, 102, 111, 114, 109, 45, 117, 114, 108, 101, 110, 99, 111, 100, 101, 100]⟩
def mY : ByteArray := ⟨#[109, 117, 108, 116, 105, 112, 97, 114, 116, 47, 102, 111, 114, 109, 45, 100, 97, 116, 97, 59, 32, 98, 111, 117, 110, 100, 97, 114, 121, 61]⟩
def tY : ByteArray := ⟨#[116, 101, 120, 116, 47, 112, 108, 97, 105, 110]⟩
/-- A body, its type, the error. -/
def bodT (k : Int) (l : List En) (b : ByteArray) : ByteArray := if k = 1 then urlS l else if k = 2 then encT20 l b else if k = 3 then txt (encN l) else ⟨#[]⟩
def bodY (k : Int) (l : List En) (b : ByteArray) : ByteArray := if k = 1 then uY else if k = 2 then (if clrL l (bL b) = true then mY ++ b else ⟨#[]⟩) else if k = 3 then tY else ⟨#[]⟩
def bodE (k : Int) (l : List En) (b : ByteArray) : Int := if k = 1 then 0 else if k = 2 then encE20 l b else if k = 3 then 0 else 3
end Go.Proofs.YtnojgejcmaajmaaGreatDoor

namespace Go.Proofs.YtnojgejcmaajmaaGreatDoor
open Go.RowKit
structure Pl where
  me : ByteArray
  ac : ByteArray
  ta : ByteArray
  bo : ByteArray
  ty : ByteArray
def pl0 : Pl := ⟨⟨#[]⟩, ⟨#[]⟩, ⟨#[]⟩, ⟨#[]⟩, ⟨#[]⟩⟩
def Pl.vals (p : Pl) : List Value := [.string p.me, .string p.ac, .string p.ta, .string p.bo, .string p.ty]
def tarP (l : List Nd) (form sub : Int) : ByteArray := setP_SubP l form sub sTaO sTa
def actP (l : List Nd) (form sub : Int) : ByteArray := setP_SubP l form sub sAcO sAc
def getP (l : List Nd) (form sub : Int) (es : List En) : Pl := ⟨sGet, txt (qryL (bL (actP l form sub)) (encU es)), tarP l form sub, ⟨#[]⟩, ⟨#[]⟩⟩
def diaP (l : List Nd) (C : List Ct) (form sub : Int) : Pl := ⟨sDia, ⟨#[]⟩, tarP l form sub, if firesP l sub = true then valE l C sub else ⟨#[]⟩, ⟨#[]⟩⟩
def posP (l : List Nd) (form sub : Int) (es : List En) (b : ByteArray) : Pl := ⟨sPost, actP l form sub, tarP l form sub, bodT (knP l form sub) es b, bodY (knP l form sub) es b⟩
def makP (l : List Nd) (C : List Ct) (form sub : Int) (es : List En) (ds : List ByteArray) : Pl × Int :=
  if rightD l C = false ∨ hasN l form = false then (pl0, 4)
  else if ¬ nmI l form = oForm then (pl0, 3)
  else if metP l form sub = sGet then (getP l form sub es, 0)
  else if metP l form sub = sDia then (diaP l C form sub, 0)
  else if knP l form sub = 2 then (match chsP es ds with
    | none => (pl0, 10)
    | some b => (posP l form sub es b, 0))
  else (posP l form sub es ⟨#[]⟩, 0)
theorem met_is {l : List Nd} {form sub : Int} (h : hasN l form = true) : metP l form sub = sGet ∨ metP l form sub = sDia ∨ metP l form sub = sPost := by
  unfold metP
  rw [if_pos h]
  split
  · rename_i q
    rcases q with q | q
    · exact .inr (.inr q)
    · exact .inr (.inl q)
  · exact .inl rfl
theorem kn_is {l : List Nd} {form sub : Int} (h : hasN l form = true) : knP l form sub = 1 ∨ knP l form sub = 2 ∨ knP l form sub = 3 := by
  unfold knP
  rw [if_pos h]
  split
  · exact .inr (.inl rfl)
  · split
    · exact .inr (.inr rfl)
    · exact .inl rfl
theorem fires_in {l : List Nd} {sub : Int} (h : firesP l sub = true) : ∃ q : Nat, sub = (q : Int) ∧ q < l.length := by
  unfold firesP at h
  rw [Bool.and_eq_true, Bool.and_eq_true, decide_eq_true_eq, decide_eq_true_eq] at h
  exact ⟨sub.toNat, by omega, by omega⟩
theorem set_size {l : List Nd} (hz : DocSz l) {m : Nat} (hm : m < l.length) (sub : Int) (own other : ByteArray) : (setP_SubP l (m : Int) sub own other).size ≤ 140737488351232 := by
  unfold setP_SubP
  split
  · rename_i q
    rw [Bool.and_eq_true] at q
    obtain ⟨k, rfl, hk⟩ := fires_in q.1
    rw [Int.toNat_natCast, nd_at hk]
    exact fnd_lenS (hz.nds _ (List.getElem_mem hk)).tx _
  · rw [Int.toNat_natCast, nd_at hm]
    exact fnd_lenS (hz.nds _ (List.getElem_mem hm)).tx _
theorem chs_mem {es : List En} {ds : List ByteArray} {b : ByteArray} (h : chsP es ds = some b) : b ∈ ds ∧ clrL es (bL b) = true :=
  ⟨List.mem_of_mem_take (List.mem_of_find?_eq_some h), by have := List.find?_some h; simpa using this⟩
theorem urlS_few {n : Nat} {l : List En} (hn : n ≤ 1000000) (h : EnsOK n l) : (urlS l).size ≤ 2400000400 := by
  have e : (urlS l).size = (encU l).length := rfl
  have := encU_len h
  omega
end Go.Proofs.YtnojgejcmaajmaaGreatDoor

namespace Go.Proofs.YtnojgejcmaajmaaGreatDoor
open Go.Shelf Go.RowKit
set_option maxRecDepth 100000
theorem index_in (c : UInt8) (l : List UInt8) : decide (0 ≤ Lib.indexByte l c) = hasB l c := by
  unfold hasB
  have := index_mem c l
  cases h : l.contains c with
  | true => rw [h] at this; exact decide_eq_true (this.2 rfl)
  | false => rw [h] at this; exact decide_eq_false (fun x => by have := this.1 x; cases this)
theorem indexByte_any (s : ByteArray) (c : UInt8) (w : World) :
    Calls Tryz.prog 235 #[.string s, .int .u8 (c.toNat : Int)] w fun e w' => e = .returned (.int .i64 (Lib.indexByte s.data.toList c)) ∧ w' = w := by
  have := Any.strings_IndexByte lays137 s (c.toNat : Int) w
  have e : ((c.toNat : Int)).toNat.toUInt8 = c := by simp
  rw [e] at this; exact this
set_option maxHeartbeats 400000 in
theorem isSet_any (a : Int) (w : World) :
    Calls Tryz.prog 198 #[.int .i64 a] w fun e w' => e = .returned (.bool (decide (0 ≤ a ∧ a ≤ 7))) ∧ w' = w := by
  by_cases h0 : 0 ≤ a
  · by_cases h7 : a ≤ 7
    · rw [decide_eq_true ⟨h0, h7⟩]
      go_enter Tryz.func198, Tryz.ntmps198
      go_wp2
      go_ret
      exact ⟨rfl, rfl⟩
    · rw [decide_eq_false (fun h => h7 h.2)]
      go_enter Tryz.func198, Tryz.ntmps198
      go_wp2
      go_ret
      exact ⟨rfl, rfl⟩
  · rw [decide_eq_false (fun h => h0 h.1)]
    go_enter Tryz.func198, Tryz.ntmps198
    go_wp2
    go_ret
    exact ⟨rfl, rfl⟩
theorem stays_low {c : UInt8} (h : 97 ≤ c.toNat ∧ c.toNat ≤ 122) : stays c = true := by
  unfold stays plainB; rw [decide_eq_true (.inr (.inr h))]; rfl
theorem stays_up {c : UInt8} (h : 65 ≤ c.toNat ∧ c.toNat ≤ 90) : stays c = true := by
  unfold stays plainB; rw [decide_eq_true (.inr (.inl h))]; rfl
theorem stays_dig {c : UInt8} (h : 48 ≤ c.toNat ∧ c.toNat ≤ 57) : stays c = true := by
  unfold stays plainB; rw [decide_eq_true (.inl h)]; rfl
theorem stays_else {c : UInt8} (h : ¬ (48 ≤ c.toNat ∧ c.toNat ≤ 57 ∨ 65 ≤ c.toNat ∧ c.toNat ≤ 90 ∨ 97 ≤ c.toNat ∧ c.toNat ≤ 122)) : stays c = hasB formSg c := by
  unfold stays plainB; rw [decide_eq_false h]; rfl
set_option maxHeartbeats 400000 in
theorem staysInForm_any (c : UInt8) (w : World) :
    Calls Tryz.prog 234 #[.int .u8 (c.toNat : Int)] w fun e w' => e = .returned (.bool (stays c)) ∧ w' = w := by
  have hI := indexByte_any ⟨#[42, 45, 46, 95]⟩ c w
  have HI := hide hI
  clear hI
  by_cases h1 : 97 ≤ c.toNat ∧ c.toNat ≤ 122
  · obtain ⟨h1a, h1b⟩ := h1
    rw [stays_low ⟨h1a, h1b⟩]
    go_enter Tryz.func234, Tryz.ntmps234
    go_wp2
    go_ret
    exact ⟨rfl, rfl⟩
  · by_cases h2 : 65 ≤ c.toNat ∧ c.toNat ≤ 90
    · obtain ⟨h2a, h2b⟩ := h2
      rw [stays_up ⟨h2a, h2b⟩]
      clear h1
      go_enter Tryz.func234, Tryz.ntmps234
      go_wp2
      go_ret
      exact ⟨rfl, rfl⟩
    · by_cases h3 : 48 ≤ c.toNat ∧ c.toNat ≤ 57
      · obtain ⟨h3a, h3b⟩ := h3
        rw [stays_dig ⟨h3a, h3b⟩]
        clear h1 h2
        go_enter Tryz.func234, Tryz.ntmps234
        go_wp2
        go_ret
        exact ⟨rfl, rfl⟩
      · rw [stays_else (by omega), show hasB formSg c = decide (0 ≤ Lib.indexByte (⟨#[42, 45, 46, 95]⟩ : ByteArray).data.toList c) from (index_in c _).symm]
        go_enter Tryz.func234, Tryz.ntmps234
        go_wp2_with fail
        all_goals first
          | (exfalso; omega)
          | (refine HI.out.mono ?_; rintro e w1 ⟨rfl, rfl⟩; go_wp2_with fail; go_ret; exact ⟨rfl, rfl⟩)
end Go.Proofs.YtnojgejcmaajmaaGreatDoor

namespace Go.Proofs.YtnojgejcmaajmaaGreatDoor
open Go.Shelf Go.RowKit
set_option maxRecDepth 100000
set_option maxHeartbeats 400000 in
theorem escapes_any (set : Int) (c : UInt8) (w : World) (hT : Signs w) :
    Calls Tryz.prog 199 #[.int .i64 set, .int .u8 (c.toNat : Int)] w fun e w' => e = .returned (.bool (escB set c)) ∧ w' = w := by
  have hS := fun w => isSet_any set w
  by_cases hs : 0 ≤ set ∧ set ≤ 7
  · rw [decide_eq_true hs] at hS
    have HS := hide hS
    clear hS
    by_cases hc : c.toNat < 32 ∨ 126 < c.toNat
    · rw [escB_ctl hs hc]
      rcases hc with hc | hc
      · go_enter Tryz.func199, Tryz.ntmps199
        go_wp2_with fail
        refine (HS.out _).mono ?_
        rintro e w1 ⟨rfl, rfl⟩
        go_wp2_with fail
        go_ret
        exact ⟨rfl, rfl⟩
      · go_enter Tryz.func199, Tryz.ntmps199
        go_wp2_with fail
        refine (HS.out _).mono ?_
        rintro e w1 ⟨rfl, rfl⟩
        go_wp2_with fail
        all_goals first
          | (exfalso; omega)
          | (go_ret; exact ⟨rfl, rfl⟩)
    · have hc1 : 32 ≤ c.toNat := by omega
      have hc2 : c.toNat ≤ 126 := by omega
      by_cases h7 : set = 7
      · subst h7
        have HE := hide (escB_form hc)
        clear hc
        go_enter Tryz.func199, Tryz.ntmps199
        go_wp2_with fail
        refine (HS.out _).mono ?_
        rintro e w1 ⟨rfl, rfl⟩
        go_wp2_with fail
        all_goals first
          | (exfalso; omega)
          | (refine (staysInForm_any c _).mono ?_; rintro e w1 ⟨rfl, rfl⟩; go_wp2_with fail; go_ret; exact ⟨ret_bool HE.out.symm, rfl⟩)
      · obtain ⟨k, rfl⟩ : ∃ k : Nat, set = k := ⟨set.toNat, by omega⟩
        have hk : k < 7 := by omega
        have hcell := hT k hk
        have HE := hide (escB_sign (set := (k : Int)) (c := c) (by omega) hc)
        have HI := hide (fun w => indexByte_any (txt (signsOf k)) c w)
        have q7 : ((k : Int) == 7) = false := by simp; omega
        clear hc h7 hs hT
        go_enter Tryz.func199, Tryz.ntmps199
        go_wp2_with fail
        refine (HS.out _).mono ?_
        rintro e w1 ⟨rfl, rfl⟩
        go_wp2_with fail
        all_goals first
          | (exfalso; omega)
          | (refine (HI.out _).mono ?_; rintro e w1 ⟨rfl, rfl⟩; go_wp2_with fail; go_ret; exact ⟨ret_bool ((index_in c _).trans HE.out.symm), rfl⟩)
  · rw [decide_eq_false hs] at hS
    have HS := hide hS
    rw [escB_no c hs]
    clear hS hs
    go_enter Tryz.func199, Tryz.ntmps199
    go_wp2_with fail
    refine (HS.out _).mono ?_
    rintro e w1 ⟨rfl, rfl⟩
    go_wp2_with fail
    go_ret
    exact ⟨rfl, rfl⟩
end Go.Proofs.YtnojgejcmaajmaaGreatDoor

namespace Go.Proofs.YtnojgejcmaajmaaGreatDoor
open Go.RowKit
set_option maxRecDepth 100000
set_option maxHeartbeats 400000 in
theorem writeEscape_any (B b : Nat) (l : List UInt8) (c : UInt8) (w : World) (h : HoldsB B b l w) (hlen : l.length + 3 ≤ 140737488355328) (hBw : B ≤ w.heap.size) (hT : Digs w) (hB : 5 < B) :
    Calls Tryz.prog 200 #[.pointer (some ⟨b, 0, none⟩), .int .u8 (c.toNat : Int)] w fun e w' => e = .returned (.tuple #[]) ∧ HoldsB B b (l ++ [37, hexD (c.toNat / 16), hexD (c.toNat % 16)]) w' ∧ Below B w w' := by
  have hc := c.toNat_lt
  have HT := hide hT
  clear hT
  go_enter Tryz.func200, Tryz.ntmps200
  go_wp2_with fail
  refine (writeByte B b l 37 w h (by omega) hBw).mono ?_
  rintro e w1 ⟨rfl, h1, b1⟩
  have d1 := (HT.out.under b1 hB) (c.toNat / 16) (by omega)
  go_wp2_with fail
  refine (writeByte B b _ (hexD (c.toNat / 16)) w1 h1 (by simp; omega) (by have := b1.size; omega)).mono ?_
  rintro e w2 ⟨rfl, h2, b2⟩
  have d2 := (HT.out.under (b1.trans b2) hB) (c.toNat % 16) (by omega)
  clear d1
  go_wp2_with fail
  refine (writeByte B b _ (hexD (c.toNat % 16)) w2 h2 (by simp; omega) (by have := b1.size; have := b2.size; omega)).mono ?_
  rintro e w3 ⟨rfl, h3, b3⟩
  go_wp2_with fail
  go_end0
  refine ⟨rfl, ?_, (b1.trans b2).trans b3⟩
  have e1 : l ++ [37] ++ [hexD (c.toNat / 16)] ++ [hexD (c.toNat % 16)] = l ++ [37, hexD (c.toNat / 16), hexD (c.toNat % 16)] := by simp
  rw [← e1]; exact h3
theorem encL_take (set : Int) (s : ByteArray) (k : Nat) (h : k < s.size) : encL set (s.data.toList.take (k + 1)) = encL set (s.data.toList.take k) ++ encB set s[k] := by
  rw [byteAt_take s k h, encL_append, ← byteAt_eq s k h]
  show _ ++ (encB set s[k] ++ []) = _
  rw [List.append_nil]
theorem encL_take_len (set : Int) (s : ByteArray) (k : Nat) : (encL set (s.data.toList.take k)).length ≤ 3 * k := by
  have := encL_len set (s.data.toList.take k)
  have := List.length_take_le k s.data.toList
  omega
set_option maxHeartbeats 400000 in
theorem encode_any (s : ByteArray) (set : Int) (w : World) (hset : 0 ≤ set ∧ set ≤ 7) (hs : s.size ≤ 1099511627776) (hS : Signs w) (hD : Digs w) :
    Calls Tryz.prog 149 #[.string s, .int .i64 set] w fun r w' => r = .returned (.tuple #[.string (encS set s), .int .i64 0]) ∧ Below w.heap.size w w' := by
  have hB : 5 < w.heap.size := World.block_lt_of_cell? _ _ (hD 0 (by decide))
  have hI := fun w => isSet_any set w
  rw [decide_eq_true hset] at hI
  have HI := hide hI
  have HS := hide hS
  have HD := hide hD
  clear hI hS hD
  go_enter Tryz.func149, Tryz.ntmps149
  go_wp2_with fail
  refine (HI.out _).mono ?_
  rintro e w0 ⟨rfl, hw⟩
  obtain rfl : w = w0 := hw.symm
  clear hw
  go_wp2_with fail
  refine (grow_fresh s.size w (by omega)).mono ?_
  rintro r w1 ⟨rfl, h1, b1⟩
  go_wp2_with fail
  go_loopw [16] (fun i wr => ∃ k : Nat, k ≤ s.size ∧ i = .int .i64 k ∧ HoldsB w.heap.size w.heap.size (encL set (s.data.toList.take k)) wr ∧ Below w.heap.size w wr) (fun i _ => s.size - (intOf i).toNat)
  case atStart => exact ⟨0, Nat.zero_le _, rfl, h1, b1⟩
  case round =>
    obtain ⟨k, hk, rfl, hh, hb⟩ := hrel
    by_cases hlt : k < s.size
    · have hle := encL_take_len set s k
      have HT := hide (encL_take set s k hlt)
      have hsz := hb.size
      have hE := escapes_any set s[k] wr (HS.out.below hb)
      cases g : escB set s[k] with
      | true =>
        rw [g] at hE
        have HE := hide hE
        have HG := hide (encB_yes g)
        clear hE g
        go_wp2_with fail
        refine HE.out.mono ?_
        rintro e w0 ⟨rfl, hw⟩
        obtain rfl : wr = w0 := hw.symm
        clear hw
        go_wp2_with fail
        refine (writeEscape_any _ _ _ s[k] _ hh (by omega) hb.size (HD.out.below hb) hB).mono ?_
        rintro r w2 ⟨rfl, h2, b2⟩
        go_wp2_with fail
        go_roundw
        case rel => exact ⟨k + 1, by omega, by go_num, by rw [HT.out, HG.out]; exact h2, hb.trans b2⟩
        case measure => simp [intOf]; omega
      | false =>
        rw [g] at hE
        have HE := hide hE
        have HG := hide (encB_not g)
        clear hE g
        go_wp2_with fail
        refine HE.out.mono ?_
        rintro e w0 ⟨rfl, hw⟩
        obtain rfl : wr = w0 := hw.symm
        clear hw
        go_wp2_with fail
        refine (writeByte _ _ _ s[k] _ hh (by omega) hb.size).mono ?_
        rintro r w2 ⟨rfl, h2, b2⟩
        go_wp2_with fail
        go_roundw
        case rel => exact ⟨k + 1, by omega, by go_num, by rw [HT.out, HG.out]; exact h2, hb.trans b2⟩
        case measure => simp [intOf]; omega
    · have e : k = s.size := by omega
      subst e
      rw [take_all] at hh
      go_wp2_with fail
      refine (builderText _ _ _ _ hh hb.size).mono ?_
      rintro r w2 ⟨rfl, b2⟩
      go_wp2_with fail
      go_ret2
      exact ⟨rfl, hb.trans b2⟩
end Go.Proofs.YtnojgejcmaajmaaGreatDoor

namespace Go.Proofs.YtnojgejcmaajmaaGreatDoor
open Go.Shelf Go.RowKit
set_option maxRecDepth 100000
theorem replaceAll_any (s old new : ByteArray) (w : World) (hs : s.size ≤ 1073741824) (hm : SomeMax w) (h1 : 1 ≤ old.size) (h2 : new.size = 1) (hne : old.data.toList ≠ new.data.toList) :
    Calls Tryz.prog 98 #[.string s, .string old, .string new] w fun e w' => e = .returned (.string (txt (repA old.data.toList new.data.toList s.data.toList))) ∧ Below w.heap.size w w' := by
  obtain ⟨m, hm⟩ := hm
  have hc := Lib.countB_mul_le old h1 s.size s (Nat.le_refl _)
  have hc2 : Lib.countB s old * new.size ≤ s.size := by
    rw [h2]
    exact Nat.le_trans (Nat.mul_le_mul_left _ h1) hc
  have := Any.strings_ReplaceAll lays155 extraRp s old new m w (by omega) hm h1 (by omega)
  rw [repA_all hne] at this
  exact this
theorem encS_size (set : Int) (s : ByteArray) : (encS set s).size ≤ 3 * s.size := by
  have := encL_len set s.data.toList
  unfold encS; rw [txt_size]; simpa using this
theorem form_text (s : ByteArray) : txt (repA (⟨#[37, 50, 48]⟩ : ByteArray).data.toList (⟨#[43]⟩ : ByteArray).data.toList (encS 7 s).data.toList) = formS s := by
  unfold encS formS; rw [txt_data]; exact congrArg txt (rep_enc s.data.toList)
set_option maxHeartbeats 400000 in
theorem form_any (s : ByteArray) (w : World) (hs : s.size ≤ 268435456) (hS : Signs w) (hD : Digs w) (hM : SomeMax w) :
    Calls Tryz.prog 84 #[.string s] w fun r w' => r = .returned (.string (formS s)) ∧ Below w.heap.size w w' := by
  have hE := encode_any s 7 w (by decide) (by omega) hS hD
  have hz := encS_size 7 s
  have hR := fun w hM => replaceAll_any (encS 7 s) ⟨#[37, 50, 48]⟩ ⟨#[43]⟩ w (by omega) hM (by decide) (by decide) (by decide)
  rw [form_text] at hR
  have HE := hide hE
  have HR := hide hR
  have HM := hide hM
  clear hE hR hM hS hD
  go_enter Tryz.func84, Tryz.ntmps84
  go_wp2_with fail
  refine HE.out.mono ?_
  rintro e w1 ⟨rfl, b1⟩
  go_wp2_with fail
  refine (HR.out _ (HM.out.below b1)).mono ?_
  rintro e w2 ⟨rfl, b2⟩
  go_wp2_with fail
  go_ret
  exact ⟨rfl, chain b1 b2⟩
end Go.Proofs.YtnojgejcmaajmaaGreatDoor

namespace Go.Proofs.YtnojgejcmaajmaaGreatDoor
open Go.RowKit
theorem OwnR.oth {B b : Nat} {w w' : World} {v : Value} {fs : List En} (h : OwnR B w v fs) (hb : OthK b w w') (hn : b < B) : OwnR B w' v fs := by
  refine ⟨h.1, ?_⟩
  rcases h.2 with q | ⟨g, cap, cur, rfl, h1, h2, h3⟩
  · exact .inl q
  · exact .inr ⟨g, cap, cur, rfl, h1, hb g _ h2 (fun e => by cases e; omega) (fun c fz e => by cases e), h3⟩
theorem en_ty : 76 ≠ 5 := by decide
theorem OwnR.cellsAt {B : Nat} {w : World} {q : Option Addr} {c : Nat} {p : List En} (h : OwnR B w (.slice q p.length c) p) (k : Nat) (g : k < p.length) : ∃ b o, q = some ⟨b, o, none⟩ ∧ EnAt w b (o + k * 5) p[k] := by
  obtain ⟨q', c', eq, hq⟩ := h.files
  cases eq
  rcases hq with t | ⟨b, o, rfl, hc⟩
  · rw [t] at g; simp at g
  · exact ⟨b, o, rfl, hc k g⟩
theorem plain_rest {l : List En} : ∀ e ∈ plainU l, e.file = false ∧ e.fname = ⟨#[]⟩ ∧ e.typ = ⟨#[]⟩ := by
  intro e he
  obtain ⟨x, _, rfl⟩ := List.mem_map.1 he
  exact ⟨rfl, rfl, rfl⟩
end Go.Proofs.YtnojgejcmaajmaaGreatDoor

namespace Go.Proofs.YtnojgejcmaajmaaGreatDoor
open Go.RowKit
set_option maxRecDepth 100000
theorem UrTabs.under {B : Nat} {w w' : World} (h : UrTabs w) (hb : Below B w w') (hB : 4 < B ∧ 5 < B ∧ 2 < B) : UrTabs w' :=
  ⟨fun k hk => (hb.cell hB.1).trans (h.1 k hk), h.2.1.under hb hB.2.1, by obtain ⟨m, hm⟩ := h.2.2; exact ⟨m, (hb.cell hB.2.2).trans hm⟩⟩
theorem TabsU.of {w : World} (h : UrTabs w) : TabsU w.heap.size w := ⟨h, h.lt⟩
theorem TabsU.under {B : Nat} {w w' : World} (h : TabsU B w) (hb : Below B w w') : TabsU B w' := ⟨h.tabs.under hb h.low, h.low⟩
theorem form_tabs (s : ByteArray) (B : Nat) (w : World) (hs : s.size ≤ 268435456) (hT : TabsU B w) :
    Calls Tryz.prog 84 #[.string s] w fun r w' => r = .returned (.string (formS s)) ∧ Below w.heap.size w w' := form_any s w hs hT.tabs.1 hT.tabs.2.1 hT.tabs.2.2
set_option maxHeartbeats 8000000 in
theorem urEncode_any (n : Nat) (v : Value) (l : List En) (w : World) (hv : FilesV w v l) (hn : n ≤ 1000000) (hl : EnsOK n l) (hT : UrTabs w) :
    Calls Tryz.prog 31 #[v] w fun e w' => e = .returned (.string (urlS l)) ∧ Below w.heap.size w w' := by
  have ALB : Hid (Below w.heap.size w (w.alloc (.cells #[.pointer none, .slice none 0 0] 94))) := (Below.refl _ w).alloc (Nat.le_refl _) _
  have HP := hide (urPlainO_any n v l _ (hv.below ALB.out) (by omega) hl)
  have HBN := hide (HoldsK.new w)
  have TW := hide (((TabsU.of hT).under ALB.out))
  have szB : (w.alloc (.cells #[.pointer none, .slice none 0 0] 94)).heap.size = w.heap.size + 1 := by simp
  have PS := hide (plain_sizes hl)
  have PE := hide (plain_rest (l := l))
  have PN : Hid ((plainU l).length ≤ 200) := by show _ ≤ _; unfold plainU; rw [List.length_map]; exact hl.len
  have PT := hide (fun k => encT_len PS.out PN.out k)
  have EE : Hid (txt (encT (plainU l) (plainU l).length) = urlS l) := by show _ = _; unfold encT; rw [List.take_length]; rfl
  obtain ⟨pl, cl, rfl⟩ : ∃ p c, v = .slice p l.length c := by obtain ⟨p, c, e, _⟩ := hv; exact ⟨p, c, e⟩
  have p200 := PN.out
  have SZB := hide szB
  generalize plainU l = p at *
  generalize urlS l = RES at *
  clear hv hl PN hT szB
  go_enter Tryz.func31, Tryz.ntmps31
  go_wp2_with fail
  refine HP.out.mono ?_
  rintro e wp ⟨vp, rfl, op, bp⟩
  obtain ⟨q, cq, rfl⟩ := op.form
  have PF : Hid (OwnR (w.heap.size + 1) wp (.slice q p.length cq) p) := by show OwnR _ _ _ _; rw [← SZB.out]; exact op
  have h1 := HBN.out.below bp
  have BP := hide (ALB.out.trans (bp.mono ALB.out.size))
  have TP := hide (TW.out.below bp)
  clear op bp HP HBN TW ALB SZB
  go_wp2_with fail
  go_loopw [9] (fun iv wr => ∃ k : Nat, k ≤ p.length ∧ iv = .int .i64 k ∧ HoldsK w.heap.size w.heap.size (encT p k) wr ∧ Hid (Below w.heap.size w wr) ∧ Hid (OthK w.heap.size wp wr) ∧ Hid (TabsU w.heap.size wr)) (fun iv _ => p.length - (intOf iv).toNat)
  case atStart => exact ⟨0, Nat.zero_le _, rfl, h1, BP, OthK.refl _ _, TP⟩
  case round =>
    rename World => wr
    obtain ⟨k, hk, rfl, HB, BW, KW, TT⟩ := hrel
    clear BP TP h1
    by_cases g : k < p.length
    · have k1 : (k : Int) < (p.length : Int) := by omega
      have k0 : (0 : Int) ≤ (k : Int) := by omega
      obtain ⟨b, o, rfl, EA⟩ := (PF.out.oth KW.out (Nat.lt_succ_self _)).cellsAt k g
      have sz := PS.out _ (List.getElem_mem g)
      obtain ⟨pe1, pe2, pe3⟩ := PE.out _ (List.getElem_mem g)
      have L0 := PT.out k
      have s0 := formS_len p[k].name
      have s1 := formS_len p[k].val
      have H0 := hide (fun W => form_tabs p[k].name w.heap.size W (by omega))
      have H1 := hide (fun W => form_tabs p[k].val w.heap.size W (by omega))
      have a0 := EA.c0
      have a1 := EA.c1
      have a2 := EA.c2
      have a3 := EA.c3
      have a4 := EA.c4
      rw [pe1] at a2
      rw [pe2] at a3
      rw [pe3] at a4
      clear EA pe1 pe2 pe3
      by_cases kz : k = 0
      · have EX : Hid (encT p (k + 1) = (([] ++ (formS p[k].name).data.toList) ++ [(61 : UInt8)]) ++ (formS p[k].val).data.toList) := by
          show _ = _
          subst kz
          exact encT_first g
        have OE : encT p k = [] := by rw [kz]; rfl
        rw [OE] at HB
        have d0 : decide (0 < (k : Int)) = false := decide_eq_false (by omega)
        have d1 : ¬ 0 < k := by omega
        clear PS PT PF EE PE
        obtain ⟨sz0, sz1⟩ := sz
        clear L0 kz OE
        generalize formS p[k].name = f0 at *
        generalize formS p[k].val = f1 at *
        generalize p[k].name = t0 at *
        generalize p[k].val = t1 at *
        have sf0 : f0.size ≤ 6000000 := by omega
        have sf1 : f1.size ≤ 6000000 := by omega
        clear s0 s1 sz0 sz1
        have AL0 : Hid (Below wr.heap.size wr (wr.alloc (.cells #[.string t0, .string t1, .bool false, .string ⟨#[]⟩, .string ⟨#[]⟩] 76))) := (Below.refl _ wr).alloc (Nat.le_refl _) _
        have K1 := hide (Bk.new wr [.string t0, .string t1, .bool false, .string ⟨#[]⟩, .string ⟨#[]⟩] 76)
        have HB1 := hide (HB.below AL0.out)
        have TA := hide (TT.out.below AL0.out)
        have sw1 := Nat.le_trans BW.out.size AL0.out.size
        have BW1 := hide (BW.out.trans (AL0.out.mono BW.out.size))
        have KW1 := hide (KW.out.then AL0.out)
        have nb : wr.heap.size ≠ w.heap.size := by have := holdsK_lt HB; omega
        have tb := en_ty
        clear AL0 HB BW KW TT
        have hz := HB1.out
        have K2 := K1
        have TB := TA
        have sw := sw1
        have BW2 := BW1
        have KW2 := KW1
        clear K1 TA HB1 KW1 BW1 sw1
        have x0 := K2.out.cell 0 rfl
        go_wp2_with fail
        refine (H0.out _ TB.out).mono ?_
        rintro e w2 ⟨rfl, b2⟩
        have h2 := hz.below b2
        have m2 := Nat.le_trans sw b2.size
        have K3 := hide (K2.out.below b2)
        have T2 := hide (TB.out.below b2)
        have BW3 := hide (BW2.out.trans (b2.mono sw))
        have KW3 := hide (KW2.out.then b2)
        clear hz b2 K2 x0 H0 BW2 KW2 TB sw
        go_wp2_with fail
        refine (writeStringK w.heap.size w.heap.size [] f0 _ h2 (by simp only [List.length_nil]; omega) m2).mono ?_
        rintro e w3 ⟨rfl, h3, b3, k3⟩
        have K4 := hide (K3.out.oth k3 nb tb)
        have T3 := hide (T2.out.under b3)
        have m3 := Nat.le_trans m2 b3.size
        have BW4 := hide (BW3.out.trans b3)
        have KW4 := hide (KW3.out.trans k3)
        clear h2 b3 k3 K3 T2 m2 BW3 KW3
        go_wp2_with fail
        refine (writeByteK w.heap.size w.heap.size _ 61 _ h3 (by simp only [List.length_append, List.length_nil, Array.length_toList, ByteArray.size_data]; omega) m3).mono ?_
        rintro e w4 ⟨rfl, h4, b4, k4⟩
        have K5 := hide (K4.out.oth k4 nb tb)
        have T4 := hide (T3.out.under b4)
        have m4 := Nat.le_trans m3 b4.size
        have BW5 := hide (BW4.out.trans b4)
        have KW5 := hide (KW4.out.trans k4)
        have x1 := K5.out.cell 1 rfl
        clear h3 b4 k4 K4 T3 m3 BW4 KW4 K5
        go_wp2_with fail
        refine (H1.out _ T4.out).mono ?_
        rintro e w5 ⟨rfl, b5⟩
        have h5 := h4.below b5
        have m5 := Nat.le_trans m4 b5.size
        have T5 := hide (T4.out.below b5)
        have BW6 := hide (BW5.out.trans (b5.mono m4))
        have KW6 := hide (KW5.out.then b5)
        clear h4 b5 T4 x1 H1 BW5 KW5 m4
        go_wp2_with fail
        refine (writeStringK w.heap.size w.heap.size _ f1 _ h5 (by simp only [List.length_append, List.length_nil, List.length_cons, Array.length_toList, ByteArray.size_data]; omega) m5).mono ?_
        rintro e w6 ⟨rfl, h6, b6, k6⟩
        have T6 := hide (T5.out.under b6)
        have BW7 := hide (BW6.out.trans b6)
        have KW7 := hide (KW6.out.trans k6)
        rw [← EX.out] at h6
        clear h5 b6 k6 T5 BW6 KW6 m5
        go_wp2_with fail
        go_roundw
        case rel => exact ⟨k + 1, by omega, by go_num, h6, BW7, KW7, T6⟩
        case measure => simp [intOf]; omega
      · have EX : Hid (encT p (k + 1) = (((encT p k ++ [(38 : UInt8)]) ++ (formS p[k].name).data.toList) ++ [(61 : UInt8)]) ++ (formS p[k].val).data.toList) := encT_next g (by omega)
        have d0 : decide (0 < (k : Int)) = true := decide_eq_true (by omega)
        clear PS PT PF EE PE
        obtain ⟨sz0, sz1⟩ := sz
        generalize encT p k = C at *
        have LC : C.length ≤ 4000000000 := by omega
        generalize formS p[k].name = f0 at *
        generalize formS p[k].val = f1 at *
        generalize p[k].name = t0 at *
        generalize p[k].val = t1 at *
        have sf0 : f0.size ≤ 6000000 := by omega
        have sf1 : f1.size ≤ 6000000 := by omega
        clear s0 s1 sz0 sz1 L0
        have AL0 : Hid (Below wr.heap.size wr (wr.alloc (.cells #[.string t0, .string t1, .bool false, .string ⟨#[]⟩, .string ⟨#[]⟩] 76))) := (Below.refl _ wr).alloc (Nat.le_refl _) _
        have K1 := hide (Bk.new wr [.string t0, .string t1, .bool false, .string ⟨#[]⟩, .string ⟨#[]⟩] 76)
        have HB1 := hide (HB.below AL0.out)
        have TA := hide (TT.out.below AL0.out)
        have sw1 := Nat.le_trans BW.out.size AL0.out.size
        have BW1 := hide (BW.out.trans (AL0.out.mono BW.out.size))
        have KW1 := hide (KW.out.then AL0.out)
        have nb : wr.heap.size ≠ w.heap.size := by have := holdsK_lt HB; omega
        have tb := en_ty
        clear AL0 HB BW KW TT
        go_wp2_with fail
        refine (writeByteK w.heap.size w.heap.size C 38 _ HB1.out (by omega) sw1).mono ?_
        rintro e wz ⟨rfl, hz, bz, kz2⟩
        have K2 := hide (K1.out.oth kz2 nb tb)
        have TB := hide (TA.out.under bz)
        have sw := Nat.le_trans sw1 bz.size
        have BW2 := hide (BW1.out.trans bz)
        have KW2 := hide (KW1.out.trans kz2)
        clear K1 TA bz kz2 HB1 KW1 BW1 sw1
        have x0 := K2.out.cell 0 rfl
        go_wp2_with fail
        refine (H0.out _ TB.out).mono ?_
        rintro e w2 ⟨rfl, b2⟩
        have h2 := hz.below b2
        have m2 := Nat.le_trans sw b2.size
        have K3 := hide (K2.out.below b2)
        have T2 := hide (TB.out.below b2)
        have BW3 := hide (BW2.out.trans (b2.mono sw))
        have KW3 := hide (KW2.out.then b2)
        clear hz b2 K2 x0 H0 BW2 KW2 TB sw
        go_wp2_with fail
        refine (writeStringK w.heap.size w.heap.size (C ++ [38]) f0 _ h2 (by simp only [List.length_append, List.length_cons, List.length_nil]; omega) m2).mono ?_
        rintro e w3 ⟨rfl, h3, b3, k3⟩
        have K4 := hide (K3.out.oth k3 nb tb)
        have T3 := hide (T2.out.under b3)
        have m3 := Nat.le_trans m2 b3.size
        have BW4 := hide (BW3.out.trans b3)
        have KW4 := hide (KW3.out.trans k3)
        clear h2 b3 k3 K3 T2 m2 BW3 KW3
        go_wp2_with fail
        refine (writeByteK w.heap.size w.heap.size _ 61 _ h3 (by simp only [List.length_append, List.length_cons, List.length_nil, Array.length_toList, ByteArray.size_data]; omega) m3).mono ?_
        rintro e w4 ⟨rfl, h4, b4, k4⟩
        have K5 := hide (K4.out.oth k4 nb tb)
        have T4 := hide (T3.out.under b4)
        have m4 := Nat.le_trans m3 b4.size
        have BW5 := hide (BW4.out.trans b4)
        have KW5 := hide (KW4.out.trans k4)
        have x1 := K5.out.cell 1 rfl
        clear h3 b4 k4 K4 T3 m3 BW4 KW4 K5
        go_wp2_with fail
        refine (H1.out _ T4.out).mono ?_
        rintro e w5 ⟨rfl, b5⟩
        have h5 := h4.below b5
        have m5 := Nat.le_trans m4 b5.size
        have T5 := hide (T4.out.below b5)
        have BW6 := hide (BW5.out.trans (b5.mono m4))
        have KW6 := hide (KW5.out.then b5)
        clear h4 b5 T4 x1 H1 BW5 KW5 m4
        go_wp2_with fail
        refine (writeStringK w.heap.size w.heap.size _ f1 _ h5 (by simp only [List.length_append, List.length_cons, List.length_nil, Array.length_toList, ByteArray.size_data]; omega) m5).mono ?_
        rintro e w6 ⟨rfl, h6, b6, k6⟩
        have T6 := hide (T5.out.under b6)
        have BW7 := hide (BW6.out.trans b6)
        have KW7 := hide (KW6.out.trans k6)
        rw [← EX.out] at h6
        clear h5 b6 k6 T5 BW6 KW6 m5
        go_wp2_with fail
        go_roundw
        case rel => exact ⟨k + 1, by omega, by go_num, h6, BW7, KW7, T6⟩
        case measure => simp [intOf]; omega
    · obtain rfl : k = p.length := by omega
      clear PF PS PT PE
      go_wp2_with fail
      refine (builderTextK _ _ _ _ HB BW.out.size).mono ?_
      rintro e w2 ⟨rfl, h2, b2, _⟩
      have B2 := BW.out.trans b2
      rw [EE.out]
      clear EE
      go_wp2_with fail
      go_ret
      exact ⟨rfl, B2⟩
end Go.Proofs.YtnojgejcmaajmaaGreatDoor

namespace Go.Proofs.YtnojgejcmaajmaaGreatDoor
open Go.Shelf Go.RowKit
set_option maxRecDepth 100000
theorem bL_ne {t : ByteArray} (h : 0 < t.size) : bL t ≠ [] := by
  intro e
  have e2 : (bL t).length = t.size := by simp
  rw [e] at e2
  simp at e2
  omega
theorem contains_any (s t : ByteArray) (w : World) (hs : s.size ≤ 1073741824) (ht : 0 < t.size) (hm : SomeMax w) :
    Calls Tryz.prog 51 #[.string s, .string t] w fun e w' => e = .returned (.bool (cutL (bL t) (bL s)).isSome) ∧ w' = w := by
  obtain ⟨m, hm⟩ := hm
  have h := Any.strings_Contains lays144 s t m w (by omega) hm
  rw [has_cut (bL t) (bL_ne ht) (bL s)] at h
  exact h
theorem replaceP_any (l old new : List UInt8) (w : World) (hs : l.length ≤ 1073741824) (hm : SomeMax w) (h1 : 1 ≤ old.length) (h2 : new.length ≤ 3) (hne : old ≠ new) :
    Calls Tryz.prog 98 #[.string (txt l), .string (txt old), .string (txt new)] w fun e w' => e = .returned (.string (txt (repA old new l))) ∧ Below w.heap.size w w' := by
  obtain ⟨m, hm⟩ := hm
  have hc := Lib.countB_mul_le (txt old) h1 (txt l).size (txt l) (Nat.le_refl _)
  have z : (txt l).size = l.length := rfl
  have hc2 : Lib.countB (txt l) (txt old) * (txt new).size ≤ 3 * (txt l).size := by
    have a : Lib.countB (txt l) (txt old) * 1 ≤ Lib.countB (txt l) (txt old) * (txt old).size := Nat.mul_le_mul_left _ h1
    have b : Lib.countB (txt l) (txt old) * (txt new).size ≤ Lib.countB (txt l) (txt old) * 3 := Nat.mul_le_mul_left _ h2
    omega
  have := Any.strings_ReplaceAll lays155 extraRp (txt l) (txt old) (txt new) m w (by rw [z]; omega) hm h1 (by rw [z] at hc2 ⊢; omega)
  have e : Lib.replaceAll (txt l).data.toList (txt old).data.toList (txt new).data.toList = repA old new l := repA_all hne l
  rw [e] at this
  exact this

end Go.Proofs.YtnojgejcmaajmaaGreatDoor
