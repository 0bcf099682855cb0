/- The program's checked of layer 17 and its closure, slices.Clone of numbers. -/
import Derived.Test.YtldbaoolddlacaaGreatDoorJgz21

namespace Go.Proofs.YtldbaoolddlacaaGreatDoor
open Go.RowKit Go.Shelf
set_option maxRecDepth 100000
def gclren : Go.Shelf.Ren := ⟨fun | 15 => 36 | n => n, fun | 3 => 3 | 4 => 4 | 22 => 38 | n => n, fun n => n⟩
theorem laysD15 : Go.Proofs.Lays2.n15 Tryz.prog gclren := {
  mixed := by kernel_rfl
  f15 := Tryz.func36.trans (congrArg some (by kernel_rfl))
  t3 := Tryz.underlying3
  a3 := Tryz.isAgg3
  z3 := Tryz.sizeOf3
  v3 := Tryz.zeroValue3
  t4 := Tryz.underlying4
  a4 := Tryz.isAgg4
  z4 := Tryz.sizeOf4
  v4 := Tryz.zeroValue4
  t22 := Tryz.underlying38
  a22 := Tryz.isAgg38
  z22 := Tryz.sizeOf38
  v22 := Tryz.zeroValue38
  i3 := by kernel_rfl }
theorem cloneI_any (v : Value) (ks : List Int) (w : World) (hv : IntsV w v ks) (hn : ¬ ks = []) (hl : ks.length ≤ 17592186044416) :
    Calls Tryz.prog 36 #[v] w fun e w' => ∃ v', e = .returned v' ∧ KidsO w.heap.size w' v' ks ∧ Below w.heap.size w w' := by
  obtain ⟨p, c, rfl, hv⟩ := hv
  obtain ⟨b, o, rfl, hc⟩ : ∃ b o, p = some ⟨b, o, none⟩ ∧ ∀ i (h : i < ks.length), w.cell? ⟨b, o + i, none⟩ = some (.int .i64 ks[i]) := by
    rcases hv with t | t
    · exact absurd t hn
    · exact t
  refine (Any.slices_Clone_int laysD15 b o ks.length c ks w (Nat.le_refl _) (by omega) (fun j hj => ?_)).mono ?_
  · rw [hc j hj, List.getD_eq_getElem?_getD, List.getElem?_eq_getElem hj, Option.getD_some]
  · rintro e w1 ⟨v', rfl, h1, _, h3⟩
    rw [List.take_length] at h1
    exact ⟨v', rfl, h1, h3⟩
set_option maxHeartbeats 8000000 in
theorem gpChecked1_any (cv : Value) (C : List Ct) (x : Int) (Bs : Nat) (w : World) (hc : CtsV w cv C) (hx : 0 ≤ x ∧ x < (C.length : Int)) (x1 : w.cell? ⟨Bs, 0, none⟩ = some cv) :
    Calls Tryz.prog 37 #[.int .i64 x, .pointer (some ⟨Bs, 0, none⟩)] w fun e w' => e = .returned (.bool (!(st C x).chk)) ∧ Below w.heap.size w w' := by
  obtain ⟨q, rfl⟩ : ∃ q : Nat, x = (q : Int) := ⟨x.toNat, by omega⟩
  have hq : q < C.length := by omega
  have es : st C (q : Int) = C[q] := by unfold st; rw [Int.toNat_natCast, List.getD_eq_getElem?_getD, List.getElem?_eq_getElem hq]; rfl
  rw [es]
  obtain ⟨F, hf, p, k, rfl, hh⟩ := hc
  obtain ⟨b, o, rfl, hcc⟩ : ∃ b o, p = some ⟨b, o, none⟩ ∧ ∀ i (h : i < C.length), CtAt w b (o + i * 10) C[i] (fvAt F i) := by
    rcases hh with t | t
    · rw [t] at hq; simp at hq
    · exact t
  have c3 : w.cell? ⟨b, o + q * 10 + 3, none⟩ = some (.bool C[q].chk) := hcc q hq 3 _ rfl
  have q0 : (0 : Int) ≤ (q : Int) := by omega
  have q1 : (q : Int) < (C.length : Int) := by omega
  clear hcc hh hf es hx
  generalize C[q].chk = r at *
  go_enter Tryz.func37, Tryz.ntmps37
  go_wp2_with fail
  go_ret
  exact ⟨rfl, Below.refl _ _⟩
theorem entGpChk : ∀ args w, (callFunc 37 args).run Tryz.prog w = .ok (.enter 37 args) w := Go.Proofs.enters_of Tryz.func37 (by kernel_rfl) rfl
set_option maxHeartbeats 8000000 in
theorem gpChecked_any (cv vl : Value) (C : List Ct) (ks : List Int) (w : World) (hc : CtsV w cv C) (hk : IntsV w vl ks) (hr : ∀ i ∈ ks, 0 ≤ i ∧ i < (C.length : Int)) (hn : ¬ ks = []) (hl : ks.length ≤ 17592186044416) :
    Calls Tryz.prog 19 #[cv, vl] w fun e w' => ∃ q k, e = .returned (.slice q (ks.filter fun i => (st C i).chk).length k) ∧ KidsO w.heap.size w' (.slice q (ks.filter fun i => (st C i).chk).length k) (ks.filter fun i => (st C i).chk) ∧ Below w.heap.size w w' := by
  have BW1 : Hid (Below w.heap.size w (w.alloc (.cells #[cv] 23))) := (Below.refl _ w).alloc (Nat.le_refl _) _
  have HCl := hide (cloneI_any vl ks _ (hk.below BW1.out) hn hl)
  have K1 : Hid (Bk (w.alloc (.cells #[cv] 23)) w.heap.size [cv] 23) := Bk.new w _ _
  have H2 := hide (fun x (hx : x ∈ ks) Bs W (hb : Below w.heap.size w W) x1 => gpChecked1_any cv C x Bs W (hc.below hb) (hr x hx) x1)
  have HDl := hide (fun (vo : Value) (B : Nat) (W : World) (ko : KidsO B W vo ks) (Bl : Nat) (hp : PredM 37 #[.pointer (some ⟨Bl, 0, none⟩)] (fun x => !(st C x).chk) ks (vo.ownBlock.toList) W) => deleteFuncM_any B vo ks (fun x => !(st C x).chk) 37 #[.pointer (some ⟨Bl, 0, none⟩)] entGpChk W ko hp hl)
  have EF : Hid (ks.filter (fun x => !!(st C x).chk) = ks.filter fun i => (st C i).chk) := filter_in fun x _ => Bool.not_not _
  generalize (ks.filter fun i => (st C i).chk) = fs at *
  obtain ⟨p, k, rfl, _⟩ := hk
  obtain ⟨F, hf, pc, kc, rfl, hh⟩ := hc
  clear hr hn hf hh
  go_enter Tryz.func19, Tryz.ntmps19
  go_wp2_with fail
  refine HCl.out.mono ?_
  rintro e w5 ⟨vo, rfl, KO, b5⟩
  replace KO := hide KO
  have OB : Hid (∀ k ∈ vo.ownBlock.toList, (w.alloc (.cells #[.slice pc C.length kc] 23)).heap.size ≤ k) := fun k hk => (World.ownsRow.lt KO.out k (opt_mem.1 hk)).1
  have PX : Hid (PredM 37 #[.pointer (some ⟨w.heap.size, 0, none⟩)] (fun x => !(st C x).chk) ks (vo.ownBlock.toList) w5) := fun W x hx hc => by
    have hb : Below (w.alloc (.cells #[.slice pc C.length kc] 23)).heap.size (w.alloc (.cells #[.slice pc C.length kc] 23)) W := b5.trans (hc.below b5.size OB.out)
    exact H2.out x hx _ W (chain BW1.out hb) ((K1.out.below hb).cell 0 rfl)
  have HD := hide (HDl.out vo _ w5 KO.out _ PX.out)
  rw [EF.out] at HD
  have B7 := hide (chain BW1.out b5)
  have h56 := BW1.out.size
  clear HDl H2 PX K1 HCl BW1 EF
  obtain ⟨po, ko, eo, _⟩ := KO.out.ints
  subst eo
  go_wp2_with fail
  refine HD.out.mono ?_
  rintro e w6 ⟨q6, n6, c6, rfl, o6, ch6, _⟩
  have B8 : Hid (Below w.heap.size w w6) := B7.out.trans (ch6.below B7.out.size (fun k hk => Nat.le_trans h56 (OB.out k hk)))
  obtain ⟨q7, k7, e7⟩ := o6.formG
  obtain rfl : n6 = fs.length := by cases e7; rfl
  go_wp2_with fail
  go_ret
  exact ⟨_, _, rfl, owns_mono o6 h56, B8.out⟩

end Go.Proofs.YtldbaoolddlacaaGreatDoor
