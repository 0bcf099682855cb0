/- strings.Clone. The document's Clear, Choose, Encode of layer 20. The document's Of of layer 21. The document's Told of layer 20. The program's Clear and Choose of layer 20, and slices.ContainsFunc of entries. The program's Encode of layer 20. The program's Body of layer 21. -/
import Derived.Test.YtmnpnpmopbkabaaDoorJpl17
import Derived.Deep.DeepCutAuto

namespace Go.Proofs.YtmnpnpmopbkabaaDoor
open Go.Shelf Go.RowKit
set_option maxRecDepth 100000
def cloren : Go.Shelf.Ren := ⟨fun | 316 => 20 | n => n, fun | 0 => 0 | 3 => 3 | 4 => 4 | 5 => 5 | 9 => 9 | 37 => 41 | 72 => 43 | 127 => 53 | n => n, fun  | n => n⟩
theorem laysM316 : Go.Proofs.LaysM.n316 Tryd.prog cloren := {
  mixed := by kernel_rfl
  f316 := Tryd.func20.trans (congrArg some (by kernel_rfl))
  t0 := Tryd.underlying0
  a0 := Tryd.isAgg0
  z0 := Tryd.sizeOf0
  v0 := Tryd.zeroValue0
  t3 := Tryd.underlying3
  a3 := Tryd.isAgg3
  z3 := Tryd.sizeOf3
  v3 := Tryd.zeroValue3
  t4 := Tryd.underlying4
  a4 := Tryd.isAgg4
  z4 := Tryd.sizeOf4
  v4 := Tryd.zeroValue4
  t9 := Tryd.underlying9
  a9 := Tryd.isAgg9
  z9 := Tryd.sizeOf9
  v9 := Tryd.zeroValue9
  t37 := Tryd.underlying41
  a37 := Tryd.isAgg41
  z37 := Tryd.sizeOf41
  v37 := Tryd.zeroValue41
  t127 := Tryd.underlying53
  a127 := Tryd.isAgg53
  z127 := Tryd.sizeOf53
  v127 := Tryd.zeroValue53
  t5 := Tryd.underlying5
  a5 := Tryd.isAgg5
  z5 := Tryd.sizeOf5
  v5 := Tryd.zeroValue5
  i0 := by kernel_rfl
  i3 := by kernel_rfl
  i4 := by kernel_rfl
  i5 := by kernel_rfl
  i9 := by kernel_rfl
  i37 := by kernel_rfl
  i127 := by kernel_rfl }
set_option maxHeartbeats 400000 in
theorem clone_any (s : ByteArray) (w : World) (hs : s.size ≤ 281474976710656) :
    Calls Tryd.prog 10 #[.string s] w fun e w' => e = .returned (.string s) ∧ Below w.heap.size w w' := by
  have hc := fun w => (Any.stringslite_Clone laysM316 s w (by omega) : Calls Tryd.prog 20 #[.string s] w fun e w' => e = .returned (.string s) ∧ Below w.heap.size w w')
  have HC := hide hc
  clear hc
  go_enter Tryd.func10, Tryd.ntmps10
  go_wp2_with fail
  refine (HC.out _).mono ?_
  rintro e w1 ⟨rfl, b1⟩
  go_wp2_with fail
  go_ret
  exact ⟨rfl, b1⟩
end Go.Proofs.YtmnpnpmopbkabaaDoor

namespace Go.Proofs.YtmnpnpmopbkabaaDoor
open Go.RowKit
set_option maxRecDepth 100000
theorem ens_z {n : Nat} {l : List En} (h : EnsOK n l) (hn : n ≤ 1000000) : ∀ e ∈ l, EnZ 1000000 e := fun e he => by
  have := h.ent e he
  unfold EnZ
  omega
theorem fnd_pos {t l : List UInt8} : decide (0 ≤ fndI t l 0) = !(cutL t l).isNone := by
  unfold fndI
  cases cutL t l with
  | none => rfl
  | some p => exact decide_eq_true (by show (0 : Int) ≤ ((0 + p.1.length : Nat) : Int); omega)
theorem all_takeE (f : En → Bool) (l : List En) {k : Nat} (h : k < l.length) : (l.take (k + 1)).all f = ((l.take k).all f && f l[k]) := by
  rw [List.take_succ_eq_append_getElem h, List.all_append]; simp
theorem files_formP {w : World} {v : Value} {l : List En} (h : FilesV w v l) : ∃ p c, v = .slice p l.length c := by
  obtain ⟨p, c, e, _⟩ := h; exact ⟨p, c, e⟩
/-- An entry of a row, told by its number. -/
theorem en_of {w : World} {p : Option Addr} {c : Nat} {l : List En} (hv : FilesV w (.slice p l.length c) l) {k : Nat} (h : k < l.length) : ∃ b o, p = some ⟨b, o, none⟩ ∧ EnAt w b (o + k * 5) l[k] := by
  obtain ⟨p', c', e, hv⟩ := hv
  cases e
  rcases hv with hv | ⟨b, o, rfl, hv⟩
  · rw [hv] at h; simp at h
  · exact ⟨b, o, rfl, hv k h⟩
set_option maxHeartbeats 8000000 in
theorem refClear_any (n : Nat) (v : Value) (l : List En) (b : ByteArray) (w : World) (hv : FilesV w v l) (hn : n ≤ 1000000) (hl : EnsOK n l) (hb : b.size ≤ 1099511627776) :
    Calls Tryd.prog 25 #[v, .string b] w fun e w' => e = .returned (.bool (clrL l (bL b))) ∧ Below w.heap.size w w' := by
  have FV := hide hv
  have HF := hide (refFit_any b w hb)
  have HZ := hide (ens_z hl hn)
  have l200 := hl.len
  have E : Hid (clrL l (bL b) = (fitL (bL b) && l.all fun e => (cutL (bL b) (partL e)).isNone)) := rfl
  generalize clrL l (bL b) = RES at *
  obtain ⟨p, c, rfl⟩ := files_formP hv
  clear hv hl
  cases ft : fitL (bL b) with
  | false =>
    rw [ft] at HF E
    clear ft
    go_enter Tryd.func25, Tryd.ntmps25
    go_wp2_with fail
    refine HF.out.mono ?_
    rintro e w1 ⟨rfl, b1⟩
    go_wp2_with fail
    go_ret
    exact ⟨ret_bool E.out.symm, b1⟩
  | true =>
    rw [ft, Bool.true_and] at E
    rw [ft] at HF
    clear ft
    go_enter Tryd.func25, Tryd.ntmps25
    go_wp2_with fail
    refine HF.out.mono ?_
    rintro e w1 ⟨rfl, b1⟩
    go_wp2_with fail
    go_loopw [5] (fun iv wr => ∃ k : Nat, k ≤ l.length ∧ iv = .int .i64 k ∧ Hid ((l.take k).all (fun e => (cutL (bL b) (partL e)).isNone) = true) ∧ Hid (Below w.heap.size w wr)) (fun iv _ => l.length - (intOf iv).toNat)
    case atStart => exact ⟨0, Nat.zero_le _, rfl, rfl, b1⟩
    case round =>
      rename World => wr
      obtain ⟨k, hk, rfl, HA, BW⟩ := hrel
      by_cases g : k < l.length
      · have k1 : (k : Int) < (l.length : Int) := by omega
        have k0 : (0 : Int) ≤ (k : Int) := by omega
        obtain ⟨bb, oo, rfl, EA⟩ := en_of (FV.out.below BW.out) g
        have a0 := EA.c0
        have a1 := EA.c1
        have a2 := EA.c2
        have a3 := EA.c3
        have a4 := EA.c4
        have zz := HZ.out _ (List.getElem_mem g)
        have ps := part_size zz
        have HP := hide (fun W => refPart_any l[k] W zz)
        have HI := hide (fun W => refFindP_any (txt (partL l[k])) b 0 W (by show (partL l[k]).length ≤ _; omega) hb (Nat.zero_le _))
        have ER : Hid (fndI (bL b) ((bL (txt (partL l[k]))).drop 0) 0 = fndI (bL b) (partL l[k]) 0) := rfl
        rw [ER.out] at HI
        have FP := hide (fnd_pos (t := bL b) (l := partL l[k]))
        have TK := hide (all_takeE (fun e => (cutL (bL b) (partL e)).isNone) l g)
        rw [HA.out, Bool.true_and] at TK
        have NO : Hid ((cutL (bL b) (partL l[k])).isNone = false → RES = false) := fun t => by
          rw [E.out]
          exact List.all_eq_false.2 ⟨l[k], List.getElem_mem g, by rw [t]; decide⟩
        clear EA zz ps ER HA E HZ FV
        generalize fndI (bL b) (partL l[k]) 0 = z at *
        have TK2 : Hid ((l.take (k + 1)).all (fun e => (cutL (bL b) (partL e)).isNone) = (cutL (bL b) (partL l[k])).isNone) := TK.out
        clear TK
        generalize (cutL (bL b) (partL l[k])).isNone = nn at *
        generalize txt (partL l[k]) = pt at *
        generalize l[k].name = t0 at *
        generalize l[k].val = t1 at *
        generalize l[k].file = t2 at *
        generalize l[k].fname = t3 at *
        generalize l[k].typ = t4 at *
        cases nn with
        | true =>
          have d : decide (0 ≤ z) = false := FP.out
          have TKx : Hid ((l.take (k + 1)).all (fun e => (cutL (bL b) (partL e)).isNone) = true) := TK2.out
          clear NO FP TK2
          go_wp2_with fail
          refine (HP.out _).mono ?_
          rintro e w2 ⟨rfl, b2⟩
          go_wp2_with fail
          refine (HI.out _).mono ?_
          rintro e w3 ⟨rfl, hu⟩
          obtain rfl : w2 = w3 := hu.symm
          go_wp2_with fail
          go_roundw
          case rel => exact ⟨k + 1, by omega, by go_num, TKx, chain BW.out b2⟩
          case measure => simp [intOf]; omega
        | false =>
          have d : decide (0 ≤ z) = true := FP.out
          have R1 := hide (NO.out rfl)
          clear NO FP TK2
          go_wp2_with fail
          refine (HP.out _).mono ?_
          rintro e w2 ⟨rfl, b2⟩
          go_wp2_with fail
          refine (HI.out _).mono ?_
          rintro e w3 ⟨rfl, hu⟩
          obtain rfl : w2 = w3 := hu.symm
          go_wp2_with fail
          go_ret
          exact ⟨ret_bool R1.out.symm, chain BW.out b2⟩
      · obtain rfl : k = l.length := by omega
        rw [List.take_length] at HA
        rw [HA.out] at E
        clear HA FV HZ
        go_wp2_with fail
        go_ret
        exact ⟨ret_bool E.out.symm, BW.out⟩
/-- Texts behind a slice. -/
def DrawsV (w : World) (v : Value) (ds : List ByteArray) : Prop := ∃ p c, v = .slice p ds.length c ∧ (ds = [] ∨ ∃ b o, p = some ⟨b, o, none⟩ ∧ ∀ i (h : i < ds.length), w.cell? ⟨b, o + i, none⟩ = some (.string ds[i])) ∧ ds.length ≤ c
theorem DrawsV.below {w w' : World} {v : Value} {ds : List ByteArray} (h : DrawsV w v ds) (hb : Below w.heap.size w w') : DrawsV w' v ds := by
  obtain ⟨p, c, e, h, hc⟩ := h
  refine ⟨p, c, e, ?_, hc⟩
  rcases h with h | ⟨b, o, e, h⟩
  · exact .inl h
  · exact .inr ⟨b, o, e, fun i hi => cell_below (h i hi) hb⟩
theorem ret_chs {a b : ByteArray} {c d : Int} (h : a = b) (g : c = d) : Ending.returned (.tuple #[.string a, .int .i64 c]) = .returned (.tuple #[.string b, .int .i64 d]) := by rw [h, g]
/-- What is told of the first k entries. -/
def enT (l : List En) (b : List UInt8) (k : Nat) : List UInt8 := (l.take k).flatMap fun e => fstL b ++ partL e ++ [13, 10]
theorem enT_next (l : List En) (b : List UInt8) {k : Nat} (h : k < l.length) : enT l b (k + 1) = ((((enT l b k ++ [45, 45]) ++ b) ++ [13, 10]) ++ partL l[k]) ++ [13, 10] := by
  unfold enT
  rw [List.take_succ_eq_append_getElem h, List.flatMap_append]
  show _ ++ (fstL b ++ partL l[k] ++ [13, 10] ++ []) = _
  unfold fstL
  simp
theorem enT_all (l : List En) (b : List UInt8) : ((enT l b l.length ++ [45, 45]) ++ b) ++ [45, 45, 13, 10] = encP l b := by
  unfold enT encP endL
  rw [List.take_length]
  simp
theorem enT_len {l : List En} {b : List UInt8} (h : ∀ e ∈ l, EnZ 1000000 e) (hl : l.length ≤ 200) (hb : b.length ≤ 1000) (k : Nat) : (enT l b k).length ≤ 200 * 16001300 := by
  have A : ∀ m : List En, (∀ e ∈ m, EnZ 1000000 e) → (m.flatMap fun e => fstL b ++ partL e ++ [13, 10]).length ≤ m.length * 16001300 := by
    intro m
    induction m with
    | nil => intro _; simp
    | cons e m ih =>
      intro hm
      have i1 := ih (fun x hx => hm x (List.mem_cons_of_mem _ hx))
      have i2 := part_size (hm e List.mem_cons_self)
      have i3 : (fstL b).length = b.length + 4 := by unfold fstL; simp
      have i4 : (e :: m).length * 16001300 = m.length * 16001300 + 1 * 16001300 := Nat.add_mul _ _ _
      rw [List.flatMap_cons, List.length_append, List.length_append, List.length_append, i3, i4]
      show _ + 2 + _ ≤ _
      omega
  have h1 := A (l.take k) (fun e he => h e (List.mem_of_mem_take he))
  have h2 : (l.take k).length ≤ 200 := by rw [List.length_take]; omega
  have h3 : (l.take k).length * 16001300 ≤ 200 * 16001300 := Nat.mul_le_mul_right _ h2
  exact Nat.le_trans h1 h3
def encT20 (l : List En) (b : ByteArray) : ByteArray := if clrL l (bL b) = true then txt (encP l (bL b)) else ⟨#[]⟩
def encE20 (l : List En) (b : ByteArray) : Int := if clrL l (bL b) = true then 0 else 10
set_option maxHeartbeats 8000000 in
theorem refEncode20_any (n : Nat) (v : Value) (l : List En) (b : ByteArray) (w : World) (hv : FilesV w v l) (hn : n ≤ 1000000) (hl : EnsOK n l) (hb : b.size ≤ 1000) :
    Calls Tryd.prog 13 #[v, .string b] w fun e w' => e = .returned (.tuple #[.string (encT20 l b), .int .i64 (encE20 l b)]) ∧ Below w.heap.size w w' := by
  have FV := hide hv
  have HC := hide (refClear_any n v l b w hv hn hl (by omega))
  have HZ := hide (ens_z hl hn)
  have l200 := hl.len
  obtain ⟨p, c, rfl⟩ := files_formP hv
  have PT := hide (fun k => enT_len (b := bL b) HZ.out l200 (by rw [len_bL]; exact hb) k)
  clear hv hl
  cases q : clrL l (bL b) with
  | false =>
    rw [q] at HC
    have E1 : Hid (encT20 l b = ⟨#[]⟩) := by show _ = _; unfold encT20; rw [q]; rfl
    have E2 : Hid (encE20 l b = 10) := by show _ = _; unfold encE20; rw [q]; rfl
    clear q FV HZ PT
    go_enter Tryd.func13, Tryd.ntmps13
    go_wp2_with fail
    refine HC.out.mono ?_
    rintro e w1 ⟨rfl, b1⟩
    go_wp2_with fail
    go_ret2
    exact ⟨ret_chs E1.out.symm E2.out.symm, b1⟩
  | true =>
    rw [q] at HC
    have E1 : Hid (txt (encP l (bL b)) = encT20 l b) := by show _ = _; unfold encT20; rw [q]; rfl
    have E2 : Hid (encE20 l b = 0) := by show _ = _; unfold encE20; rw [q]; rfl
    clear q
    go_enter Tryd.func13, Tryd.ntmps13
    go_wp2_with fail
    refine HC.out.mono ?_
    rintro e w1 ⟨rfl, b1⟩
    have B1 := hide b1
    clear b1 HC
    go_wp2_with fail
    go_loopw [6, 7] (fun ov iv wr => ∃ k : Nat, k ≤ l.length ∧ iv = .int .i64 k ∧ OwnsB 5 w1.heap.size wr ov (enT l (bL b) k) ∧ Hid (Below w1.heap.size w1 wr)) (fun _ iv _ => l.length - (intOf iv).toNat)
    case atStart => exact ⟨0, Nat.zero_le _, rfl, OwnsB.nil _ _ _, Below.refl _ _⟩
    case round =>
      rename World => wr
      obtain ⟨k, hk, rfl, OW, BW⟩ := hrel
      have L0 := PT.out k
      have sw := BW.out.size
      by_cases g : k < l.length
      · have k1 : (k : Int) < (l.length : Int) := by omega
        have k0 : (0 : Int) ≤ (k : Int) := by omega
        obtain ⟨bb, oo, rfl, EA0⟩ := en_of (FV.out.below B1.out) g
        have EA := hide EA0
        have zq := HZ.out _ (List.getElem_mem g)
        have ps := part_size zq
        have HP := hide (fun W => refPart_any l[k] W zq)
        have EX : Hid (enT l (bL b) (k + 1) = ((((enT l (bL b) k ++ [45, 45]) ++ bL b) ++ [13, 10]) ++ bL (txt (partL l[k]))) ++ [13, 10]) := enT_next l (bL b) g
        have zp : (txt (partL l[k])).size ≤ 16000200 := by show (partL l[k]).length ≤ _; omega
        have XC := hide (fun W (hb : Below w1.heap.size w1 W) => EA.out.below hb)
        clear EA0 EA zq ps HZ FV PT E1 E2
        generalize txt (partL l[k]) = pt at *
        generalize enT l (bL b) k = C at *
        generalize l[k] = ek at *
        go_wp2_with (first | (at_builtin; refine wpList_append_text byteTypesE wr rfl _ _ rfl w1.heap.size _ C ⟨#[45, 45]⟩ rfl OW rfl (by show C.length + 2 ≤ _; omega) (by omega) ?_; intro v2 w2 o2 b2; have W2 : Hid (Below w1.heap.size w1 w2) := BW.out.trans b2; have m2 := W2.out.size) | (at_builtin; refine wpList_append_text byteTypesE w2 rfl _ _ rfl w1.heap.size _ (C ++ [45, 45]) b rfl o2 rfl (by simp only [List.length_append, List.length_cons, List.length_nil]; omega) (by omega) ?_; intro v3 w3 o3 b3; have W3 : Hid (Below w1.heap.size w1 w3) := W2.out.trans b3; have m3 := W3.out.size) | (at_builtin; refine wpList_append_text byteTypesE w3 rfl _ _ rfl w1.heap.size _ ((C ++ [45, 45]) ++ bL b) ⟨#[13, 10]⟩ rfl o3 rfl (by simp only [List.length_append, List.length_cons, List.length_nil, len_bL]; show _ + 2 ≤ _; omega) (by omega) ?_; intro v4 w4 o4 b4; have W4 : Hid (Below w1.heap.size w1 w4) := W3.out.trans b4; have m4 := W4.out.size; have EA4 := XC.out _ W4.out; have a0 := EA4.c0; have a1 := EA4.c1; have a2 := EA4.c2; have a3 := EA4.c3; have a4 := EA4.c4))
        refine (HP.out _).mono ?_
        rintro e w5 ⟨rfl, b5⟩
        have o5 := OwnsB.below o4 b5
        have W5 := hide (chain W4.out b5)
        have m5 := W5.out.size
        clear b5 HP
        go_wp2_with (first | (at_builtin; refine wpList_append_text byteTypesE w5 rfl _ _ rfl w1.heap.size _ (((C ++ [45, 45]) ++ bL b) ++ [13, 10]) pt rfl o5 rfl (by simp only [List.length_append, List.length_cons, List.length_nil, len_bL]; omega) (by omega) ?_; intro v6 w6 o6 b6; have W6 : Hid (Below w1.heap.size w1 w6) := W5.out.trans b6; have m6 := W6.out.size) | (at_builtin; refine wpList_append_text byteTypesE w6 rfl _ _ rfl w1.heap.size _ ((((C ++ [45, 45]) ++ bL b) ++ [13, 10]) ++ bL pt) ⟨#[13, 10]⟩ rfl o6 rfl (by simp only [List.length_append, List.length_cons, List.length_nil, len_bL]; show _ + 2 ≤ _; omega) (by omega) ?_; intro v7 w7 o7 b7; have W7 : Hid (Below w1.heap.size w1 w7) := W6.out.trans b7; have m7 := W7.out.size))
        rw [← EX.out] at o7
        go_roundw
        case rel => exact ⟨k + 1, by omega, by go_num, o7, W7⟩
        case measure => simp [intOf]; omega
      · obtain rfl : k = l.length := by omega
        have EA : Hid (((enT l (bL b) l.length ++ [45, 45]) ++ bL b) ++ [45, 45, 13, 10] = encP l (bL b)) := enT_all l (bL b)
        clear FV HZ PT
        generalize enT l (bL b) l.length = C at *
        generalize encP l (bL b) = EP at *
        go_wp2_with (first | (at_builtin; refine wpList_append_text byteTypesE wr rfl _ _ rfl w1.heap.size _ C ⟨#[45, 45]⟩ rfl OW rfl (by show C.length + 2 ≤ _; omega) (by omega) ?_; intro v2 w2 o2 b2; have W2 : Hid (Below w1.heap.size w1 w2) := BW.out.trans b2; have m2 := W2.out.size) | (at_builtin; refine wpList_append_text byteTypesE w2 rfl _ _ rfl w1.heap.size _ (C ++ [45, 45]) b rfl o2 rfl (by simp only [List.length_append, List.length_cons, List.length_nil]; omega) (by omega) ?_; intro v3 w3 o3 b3; have W3 : Hid (Below w1.heap.size w1 w3) := W2.out.trans b3; have m3 := W3.out.size) | (at_builtin; refine wpList_append_text byteTypesE w3 rfl _ _ rfl w1.heap.size _ ((C ++ [45, 45]) ++ bL b) ⟨#[45, 45, 13, 10]⟩ rfl o3 rfl (by simp only [List.length_append, List.length_cons, List.length_nil, len_bL]; show _ + 4 ≤ _; omega) (by omega) ?_; intro v4 w4 o4 b4; rw [EA.out] at o4; have hend := OwnsB.text byteTypesE o4; have W4 : Hid (Below w1.heap.size w1 w4) := W3.out.trans b4; have m4 := W4.out.size))
        go_ret2
        exact ⟨ret_chs E1.out E2.out.symm, chain B1.out W4.out⟩
end Go.Proofs.YtmnpnpmopbkabaaDoor

namespace Go.Proofs.YtmnpnpmopbkabaaDoor
open Go.RowKit
set_option maxRecDepth 100000
def uY : ByteArray := ⟨#[97, 112, 112, 108, 105, 99, 97, 116, 105, 111, 110, 47, 120, 45, 119, 119, 119, 45, 102, 111, 114, 109, 45, 117, 114, 108, 101, 110, 99, 111, 100, 101, 100]⟩
def mY : ByteArray := ⟨#[109, 117, 108, 116, 105, 112, 97, 114, 116, 47, 102, 111, 114, 109, 45, 100, 97, 116, 97, 59, 32, 98, 111, 117, 110, 100, 97, 114, 121, 61]⟩
def tY : ByteArray := ⟨#[116, 101, 120, 116, 47, 112, 108, 97, 105, 110]⟩
/-- A body, its type, the error. -/
def bodT (k : Int) (l : List En) (b : ByteArray) : ByteArray := if k = 1 then urlS l else if k = 2 then encT20 l b else if k = 3 then txt (encN l) else ⟨#[]⟩
def bodY (k : Int) (l : List En) (b : ByteArray) : ByteArray := if k = 1 then uY else if k = 2 then (if clrL l (bL b) = true then mY ++ b else ⟨#[]⟩) else if k = 3 then tY else ⟨#[]⟩
def bodE (k : Int) (l : List En) (b : ByteArray) : Int := if k = 1 then 0 else if k = 2 then encE20 l b else if k = 3 then 0 else 3
theorem ret_bod {a b c d : ByteArray} {e f : Int} (h1 : a = b) (h2 : c = d) (h3 : e = f) : Ending.returned (.agg #[.string a, .string c, .int .i64 e]) = .returned (.agg #[.string b, .string d, .int .i64 f]) := by rw [h1, h2, h3]
set_option maxHeartbeats 8000000 in
theorem refOf21_any (n : Nat) (kind : Int) (v : Value) (l : List En) (b : ByteArray) (w : World) (hv : FilesV w v l) (hn : n ≤ 1000000) (hl : EnsOK n l) (hb : b.size ≤ 1000) :
    Calls Tryd.prog 7 #[.int .i64 kind, v, .string b] w fun e w' => e = .returned (.agg #[.string (bodT kind l b), .string (bodY kind l b), .int .i64 (bodE kind l b)]) ∧ Below w.heap.size w w' := by
  have H1 := hide (fun W (hb' : Below w.heap.size w W) => refEncode19_any n v l W (hv.below hb') hn hl)
  have H2 := hide (fun W (hb' : Below w.heap.size w W) => refEncode20_any n v l b W (hv.below hb') hn hl hb)
  have H3 := hide (fun W (hb' : Below w.heap.size w W) => refEncode21_any n v l W (hv.below hb') hn hl)
  obtain ⟨p, c, rfl⟩ := files_formP hv
  have KR := hide (Bk.new w [.string ⟨#[]⟩, .string ⟨#[]⟩, .int .i64 0] 29)
  have B0 : Hid (Below w.heap.size w (w.alloc (.cells #[.string ⟨#[]⟩, .string ⟨#[]⟩, .int .i64 0] 29))) := (Below.refl _ w).alloc (Nat.le_refl _) _
  clear hv hl
  by_cases h1 : kind = 1
  · have E1 : Hid (bodT kind l b = urlS l) := by show _ = _; unfold bodT; rw [if_pos h1]
    have E2 : Hid (bodY kind l b = uY) := by show _ = _; unfold bodY; rw [if_pos h1]
    have E3 : Hid (bodE kind l b = 0) := by show _ = _; unfold bodE; rw [if_pos h1]
    have q1 : (kind == 1) = true := by rw [h1]; rfl
    clear H2 H3 h1
    generalize urlS l = us at *
    rw [show uY = ⟨#[97, 112, 112, 108, 105, 99, 97, 116, 105, 111, 110, 47, 120, 45, 119, 119, 119, 45, 102, 111, 114, 109, 45, 117, 114, 108, 101, 110, 99, 111, 100, 101, 100]⟩ from rfl] at E2
    go_enter Tryd.func7, Tryd.ntmps7
    go_wp2_with fail
    refine (H1.out _ B0.out).mono ?_
    rintro e w1 ⟨rfl, b1⟩
    have K1 := hide (KR.out.below b1)
    have B1 := hide (chain B0.out b1)
    have r0 := K1.out.cell 0 rfl
    have s0 := K1.out.free 0
    have r1 := K1.out.cell 1 rfl
    have s1 := K1.out.free 1
    have r2 := K1.out.cell 2 rfl
    have s2 := K1.out.free 2
    go_wp2_with fail
    refine bodyPost_ret (v := .agg #[.string us, .string ⟨#[97, 112, 112, 108, 105, 99, 97, 116, 105, 111, 110, 47, 120, 45, 119, 119, 119, 45, 102, 111, 114, 109, 45, 117, 114, 108, 101, 110, 99, 111, 100, 101, 100]⟩, .int .i64 0]) (by simp [results, go_sem, r0, r1, r2]) rfl ?_
    exact ⟨ret_bod E1.out.symm E2.out.symm E3.out.symm, (((B1.out.setCell (p := ⟨w.heap.size, 0, none⟩) (Nat.le_refl _) _).setCell (p := ⟨w.heap.size, 1, none⟩) (Nat.le_refl _) _).setCell (p := ⟨w.heap.size, 2, none⟩) (Nat.le_refl _) _)⟩
  · by_cases h2 : kind = 2
    · cases cl : clrL l (bL b) with
      | true =>
        have E1 : Hid (bodT kind l b = encT20 l b) := by show _ = _; unfold bodT; rw [if_neg h1, if_pos h2]
        have E2 : Hid (bodY kind l b = mY ++ b) := by show _ = _; unfold bodY; rw [if_neg h1, if_pos h2, cl]; rfl
        have E3 : Hid (bodE kind l b = 0) := by show _ = _; unfold bodE encE20; rw [if_neg h1, if_pos h2, cl]; rfl
        rw [show encE20 l b = 0 by unfold encE20; rw [cl]; rfl] at H2
        have q1 : (kind == 1) = false := beq_eq_false_iff_ne.2 h1
        have q2 : (kind == 2) = true := by rw [h2]; rfl
        clear H1 H3 h1 h2 cl
        generalize encT20 l b = us at *
        rw [show mY = ⟨#[109, 117, 108, 116, 105, 112, 97, 114, 116, 47, 102, 111, 114, 109, 45, 100, 97, 116, 97, 59, 32, 98, 111, 117, 110, 100, 97, 114, 121, 61]⟩ from rfl] at E2
        go_enter Tryd.func7, Tryd.ntmps7
        go_wp2_with fail
        refine (H2.out _ B0.out).mono ?_
        rintro e w1 ⟨rfl, b1⟩
        have K1 := hide (KR.out.below b1)
        have B1 := hide (chain B0.out b1)
        have r0 := K1.out.cell 0 rfl
        have s0 := K1.out.free 0
        have r1 := K1.out.cell 1 rfl
        have s1 := K1.out.free 1
        have r2 := K1.out.cell 2 rfl
        have s2 := K1.out.free 2
        go_wp2_with fail
        refine bodyPost_ret (v := .agg #[.string us, .string (⟨#[109, 117, 108, 116, 105, 112, 97, 114, 116, 47, 102, 111, 114, 109, 45, 100, 97, 116, 97, 59, 32, 98, 111, 117, 110, 100, 97, 114, 121, 61]⟩ ++ b), .int .i64 0]) (by simp [results, go_sem, r0, r1, r2]) rfl ?_
        exact ⟨ret_bod E1.out.symm E2.out.symm E3.out.symm, (((B1.out.setCell (p := ⟨w.heap.size, 0, none⟩) (Nat.le_refl _) _).setCell (p := ⟨w.heap.size, 1, none⟩) (Nat.le_refl _) _).setCell (p := ⟨w.heap.size, 2, none⟩) (Nat.le_refl _) _)⟩
      | false =>
        have E1 : Hid (bodT kind l b = ⟨#[]⟩) := by show _ = _; unfold bodT encT20; rw [if_neg h1, if_pos h2, cl]; rfl
        have E2 : Hid (bodY kind l b = ⟨#[]⟩) := by show _ = _; unfold bodY; rw [if_neg h1, if_pos h2, cl]; rfl
        have E3 : Hid (bodE kind l b = 10) := by show _ = _; unfold bodE encE20; rw [if_neg h1, if_pos h2, cl]; rfl
        rw [show encE20 l b = 10 by unfold encE20; rw [cl]; rfl] at H2
        have q1 : (kind == 1) = false := beq_eq_false_iff_ne.2 h1
        have q2 : (kind == 2) = true := by rw [h2]; rfl
        clear H1 H3 h1 h2 cl
        generalize encT20 l b = us at *
        go_enter Tryd.func7, Tryd.ntmps7
        go_wp2_with fail
        refine (H2.out _ B0.out).mono ?_
        rintro e w1 ⟨rfl, b1⟩
        have K1 := hide (KR.out.below b1)
        have B1 := hide (chain B0.out b1)
        have r0 := K1.out.cell 0 rfl
        have s0 := K1.out.free 0
        have r1 := K1.out.cell 1 rfl
        have s1 := K1.out.free 1
        have r2 := K1.out.cell 2 rfl
        have s2 := K1.out.free 2
        go_wp2_with fail
        refine bodyPost_ret (v := .agg #[.string ⟨#[]⟩, .string ⟨#[]⟩, .int .i64 10]) (by simp [results, go_sem, r0, r1, r2]) rfl ?_
        exact ⟨ret_bod E1.out.symm E2.out.symm E3.out.symm, (((B1.out.setCell (p := ⟨w.heap.size, 0, none⟩) (Nat.le_refl _) _).setCell (p := ⟨w.heap.size, 1, none⟩) (Nat.le_refl _) _).setCell (p := ⟨w.heap.size, 2, none⟩) (Nat.le_refl _) _)⟩
    · by_cases h3 : kind = 3
      · have E1 : Hid (bodT kind l b = txt (encN l)) := by show _ = _; unfold bodT; rw [if_neg h1, if_neg h2, if_pos h3]
        have E2 : Hid (bodY kind l b = tY) := by show _ = _; unfold bodY; rw [if_neg h1, if_neg h2, if_pos h3]
        have E3 : Hid (bodE kind l b = 0) := by show _ = _; unfold bodE; rw [if_neg h1, if_neg h2, if_pos h3]
        have q1 : (kind == 1) = false := beq_eq_false_iff_ne.2 h1
        have q2 : (kind == 2) = false := beq_eq_false_iff_ne.2 h2
        have q3 : (kind == 3) = true := by rw [h3]; rfl
        clear H1 H2 h1 h2 h3
        generalize txt (encN l) = us at *
        rw [show tY = ⟨#[116, 101, 120, 116, 47, 112, 108, 97, 105, 110]⟩ from rfl] at E2
        go_enter Tryd.func7, Tryd.ntmps7
        go_wp2_with fail
        refine (H3.out _ B0.out).mono ?_
        rintro e w1 ⟨rfl, b1⟩
        have K1 := hide (KR.out.below b1)
        have B1 := hide (chain B0.out b1)
        have r0 := K1.out.cell 0 rfl
        have s0 := K1.out.free 0
        have r1 := K1.out.cell 1 rfl
        have s1 := K1.out.free 1
        have r2 := K1.out.cell 2 rfl
        have s2 := K1.out.free 2
        go_wp2_with fail
        refine bodyPost_ret (v := .agg #[.string us, .string ⟨#[116, 101, 120, 116, 47, 112, 108, 97, 105, 110]⟩, .int .i64 0]) (by simp [results, go_sem, r0, r1, r2]) rfl ?_
        exact ⟨ret_bod E1.out.symm E2.out.symm E3.out.symm, (((B1.out.setCell (p := ⟨w.heap.size, 0, none⟩) (Nat.le_refl _) _).setCell (p := ⟨w.heap.size, 1, none⟩) (Nat.le_refl _) _).setCell (p := ⟨w.heap.size, 2, none⟩) (Nat.le_refl _) _)⟩
      · have E1 : Hid (bodT kind l b = ⟨#[]⟩) := by show _ = _; unfold bodT; rw [if_neg h1, if_neg h2, if_neg h3]
        have E2 : Hid (bodY kind l b = ⟨#[]⟩) := by show _ = _; unfold bodY; rw [if_neg h1, if_neg h2, if_neg h3]
        have E3 : Hid (bodE kind l b = 3) := by show _ = _; unfold bodE; rw [if_neg h1, if_neg h2, if_neg h3]
        have q1 : (kind == 1) = false := beq_eq_false_iff_ne.2 h1
        have q2 : (kind == 2) = false := beq_eq_false_iff_ne.2 h2
        have q3 : (kind == 3) = false := beq_eq_false_iff_ne.2 h3
        clear H1 H2 H3 h1 h2 h3
        go_enter Tryd.func7, Tryd.ntmps7
        have r0 := KR.out.cell 0 rfl
        have s0 := KR.out.free 0
        have r1 := KR.out.cell 1 rfl
        have s1 := KR.out.free 1
        have r2 := KR.out.cell 2 rfl
        have s2 := KR.out.free 2
        go_wp2_with fail
        refine bodyPost_ret (v := .agg #[.string ⟨#[]⟩, .string ⟨#[]⟩, .int .i64 3]) (by simp [results, go_sem]) rfl ?_
        exact ⟨ret_bod E1.out.symm E2.out.symm E3.out.symm, (Below.refl _ w).alloc (Nat.le_refl _) _⟩
end Go.Proofs.YtmnpnpmopbkabaaDoor

namespace Go.Proofs.YtmnpnpmopbkabaaDoor
open Go.RowKit
set_option maxRecDepth 100000
theorem Bk.drewC {w : World} {n : Nat} {cs : List Value} {t : TypeId} (h : Bk w n cs t) : Bk w.drew n cs t := ⟨h.lies⟩
theorem belDC {B : Nat} {a w : World} (h : Below B a w) : Below B a w.drew := ⟨h.os, h.tape, h.output, h.size, h.block⟩
theorem EnAt.drewC {w : World} {b o : Nat} {e : En} (h : EnAt w b o e) : EnAt w.drew b o e := h.below ⟨rfl, rfl, rfl, Nat.le_refl _, fun _ _ => rfl⟩
end Go.Proofs.YtmnpnpmopbkabaaDoor

namespace Go.Proofs.YtmnpnpmopbkabaaDoor
open Go.RowKit
set_option maxRecDepth 100000
/-- A function value that answers p of the entries of a list, in every later world. -/
def PredE (g : Nat) (lb : Array Value) (p : En → Bool) (l : List En) (w : World) : Prop :=
  ∀ (W : World) (x : En), x ∈ l → Below w.heap.size w W → Calls Tryd.prog g (#[.agg #[.string x.name, .string x.val, .bool x.file, .string x.fname, .string x.typ]] ++ lb) W fun e w' => e = .returned (.bool (p x)) ∧ Below W.heap.size W w'
theorem idxE_hit {ax : List En} {p : En → Bool} {k : Nat} (h : k < ax.length) (hp : p ax[k] = true) (hd : ∀ j (hj : j < ax.length), j < k → p ax[j] = false) : ax.findIdx? p = some k := by
  rw [List.findIdx?_eq_some_iff_getElem]
  exact ⟨h, hp, fun j hj => by rw [hd j (by omega) hj]; decide⟩
theorem idxE_miss {ax : List En} {p : En → Bool} (hd : ∀ j (hj : j < ax.length), p ax[j] = false) : ax.findIdx? p = none := by
  rw [List.findIdx?_eq_none_iff]
  intro x hx
  obtain ⟨j, hj, rfl⟩ := List.getElem_of_mem hx
  exact hd j hj
theorem findE_nonneg (o : Option Nat) : decide (0 ≤ findV o) = o.isSome := by
  cases o with
  | none => rfl
  | some k => exact decide_eq_true (by show (0 : Int) ≤ (k : Int); omega)
theorem idx_any {l : List En} {p : En → Bool} : (l.findIdx? p).isSome = l.any p := by
  rw [Bool.eq_iff_iff, List.findIdx?_isSome, List.any_eq_true]
set_option maxHeartbeats 8000000 in
theorem indexFuncE_any (v : Value) (ax : List En) (p : En → Bool) (g : Nat) (lb : Array Value) (eg : ∀ args w, (callFunc g args).run Tryd.prog w = .ok (.enter g args) w) (w : World) (hv : FilesV w v ax) (hp : PredE g lb p ax w) (hl : ax.length ≤ 4398046511104) :
    Calls Tryd.prog 53 #[v, .func (.func g) #[] lb] w fun e w' => e = .returned (.int .i64 (findV (ax.findIdx? p))) ∧ Below w.heap.size w w' := by
  have FV := hide hv
  obtain ⟨pp, c, rfl⟩ := files_formP hv
  have HIT := hide (fun k h h1 h2 => idxE_hit (ax := ax) (p := p) (k := k) h h1 h2)
  have MISS := hide (fun h => idxE_miss (ax := ax) (p := p) h)
  generalize ax.findIdx? p = R at *
  have HP := hide hp
  clear hp hv
  go_enter Tryd.func53, Tryd.ntmps53
  go_wp2_with fail
  go_loopw [8] (fun iv wr => ∃ k : Nat, k ≤ ax.length ∧ iv = .int .i64 k ∧ Hid (∀ j (hj : j < ax.length), j < k → p ax[j] = false) ∧ Hid (Below w.heap.size w wr)) (fun iv _ => ax.length - (intOf iv).toNat)
  case atStart => exact ⟨0, Nat.zero_le _, rfl, fun j _ q => by omega, Below.refl _ _⟩
  case round =>
    rename World => wr
    obtain ⟨k, hk, rfl, hd, BW⟩ := hrel
    by_cases h : k < ax.length
    · have i1 : (k : Int) < (ax.length : Int) := by omega
      have i0 : (0 : Int) ≤ (k : Int) := by omega
      obtain ⟨b, o, rfl, EA⟩ := en_of (FV.out.below BW.out) h
      have c0 := EA.c0
      have c1 := EA.c1
      have c2 := EA.c2
      have c3 := EA.c3
      have c4 := EA.c4
      have HC := hide (HP.out wr ax[k] (List.getElem_mem h) BW.out)
      have HK := hide (HIT.out k h)
      have ND := hide (fun q : p ax[k] = false => (fun j (hj : j < ax.length) (r : j < k + 1) => by
        rcases Nat.lt_or_ge j k with t | t
        · exact hd.out j hj t
        · obtain rfl : j = k := by omega
          exact q : ∀ j (hj : j < ax.length), j < k + 1 → p ax[j] = false))
      clear HP HIT MISS FV EA
      cases q : p ax[k] with
      | true =>
        have E := hide (HK.out q (fun j hj r => hd.out j hj r))
        rw [q] at HC
        clear HK ND q hd
        generalize ax[k].name = x1 at *
        generalize ax[k].val = x2 at *
        generalize ax[k].file = x3 at *
        generalize ax[k].fname = x4 at *
        generalize ax[k].typ = x5 at *
        go_wp2_with fail
        refine HC.out.mono ?_
        rintro e w' ⟨rfl, hb'⟩
        go_wp2_with fail
        go_ret
        exact ⟨by rw [E.out]; rfl, chain BW.out hb'⟩
      | false =>
        have E := hide (ND.out q)
        rw [q] at HC
        clear HK ND q hd
        generalize ax[k].name = x1 at *
        generalize ax[k].val = x2 at *
        generalize ax[k].file = x3 at *
        generalize ax[k].fname = x4 at *
        generalize ax[k].typ = x5 at *
        go_wp2_with fail
        refine HC.out.mono ?_
        rintro e w' ⟨rfl, hb'⟩
        go_wp2_with fail
        go_roundw
        case rel => exact ⟨k + 1, by omega, by go_num, E, chain BW.out hb'⟩
        case measure => simp [intOf]; omega
    · obtain rfl : k = ax.length := by omega
      have E := hide (MISS.out (fun j hj => hd.out j hj hj))
      clear HIT MISS hd FV HP h
      go_wp2_with fail
      go_ret
      exact ⟨by rw [E.out]; rfl, BW.out⟩
set_option maxHeartbeats 8000000 in
theorem containsFuncE_any (v : Value) (ax : List En) (p : En → Bool) (g : Nat) (lb : Array Value) (eg : ∀ args w, (callFunc g args).run Tryd.prog w = .ok (.enter g args) w) (w : World) (hv : FilesV w v ax) (hp : PredE g lb p ax w) (hl : ax.length ≤ 4398046511104) :
    Calls Tryd.prog 34 #[v, .func (.func g) #[] lb] w fun e w' => e = .returned (.bool (ax.any p)) ∧ Below w.heap.size w w' := by
  have HI := hide (indexFuncE_any v ax p g lb eg w hv hp hl)
  have E := hide (findE_nonneg (ax.findIdx? p))
  rw [idx_any] at E
  generalize ax.any p = R at *
  generalize findV (ax.findIdx? p) = z at *
  clear hv hp
  go_enter Tryd.func34, Tryd.ntmps34
  go_wp2_with fail
  refine HI.out.mono ?_
  rintro e w1 ⟨rfl, b1⟩
  go_wp2_with fail
  go_ret
  exact ⟨ret_bool E.out, b1⟩
set_option maxHeartbeats 8000000 in
theorem clear1_any (b : ByteArray) (B : Nat) (e0 : En) (W : World) (hc : W.cell? ⟨B, 0, none⟩ = some (.string b)) (hz : EnZ 1000000 e0) (hb : 0 < b.size) (hT : PtTabs W) :
    Calls Tryd.prog 31 #[.agg #[.string e0.name, .string e0.val, .bool e0.file, .string e0.fname, .string e0.typ], .pointer (some ⟨B, 0, none⟩)] W fun e w' => e = .returned (.bool (cutL (bL b) (partL e0)).isSome) ∧ Below W.heap.size W w' := by
  have HP := hide (fun X (h : Below W.heap.size W X) => part_any e0 X hz (hT.below h))
  have ps := part_size hz
  have HC := hide (fun X (h : Below W.heap.size W X) => contains_any (txt (partL e0)) b X (by show (partL e0).length ≤ _; omega) hb (hT.below h).mx)
  have EC : Hid (bL (txt (partL e0)) = partL e0) := rfl
  rw [EC.out] at HC
  generalize (cutL (bL b) (partL e0)).isSome = R at *
  generalize txt (partL e0) = pt at *
  have K1 := hide (Bk.new W [.string e0.name, .string e0.val, .bool e0.file, .string e0.fname, .string e0.typ] 34).drewC
  have B1 : Hid (Below W.heap.size W (W.alloc (.cells #[.string e0.name, .string e0.val, .bool e0.file, .string e0.fname, .string e0.typ] 34)).drew) := belDC ((Below.refl _ W).alloc (Nat.le_refl _) _)
  have x1 := hide (cell_below hc B1.out)
  clear hz ps hc hT EC
  generalize e0.name = t0 at *
  generalize e0.val = t1 at *
  generalize e0.file = fb at *
  generalize e0.fname = t2 at *
  generalize e0.typ = t3 at *
  go_enter Tryd.func31, Tryd.ntmps31
  go_wp2_with fail
  refine wp_region_held_drew (S := fun X : World => (X.cell? ⟨W.heap.size, 0, none⟩ = some (.string t0) ∧ X.cell? ⟨W.heap.size, 1, none⟩ = some (.string t1) ∧ X.cell? ⟨W.heap.size, 2, none⟩ = some (.bool fb) ∧ X.cell? ⟨W.heap.size, 3, none⟩ = some (.string t2) ∧ X.cell? ⟨W.heap.size, 4, none⟩ = some (.string t3)) ∧ X.cell? ⟨B, 0, none⟩ = some (.string b)) (by kernel_rfl) ?_ (fun hHeld => ?_)
  · exact ⟨⟨K1.out.cell 0 rfl, K1.out.cell 1 rfl, K1.out.cell 2 rfl, K1.out.cell 3 rfl, K1.out.cell 4 rfl⟩, x1.out⟩
  refine wpAnyH_take (i := 0) (oi := { dst := some 4, op := Op.load 34 (Operand.tmp 2), type := 34, pos := "parts.go:44", after := #[], guard := none }) (v := ?_) rfl (by kernel_rfl) (by kernel_rfl) (by kernel_rfl) (fun _ _ _ h => h) (Or.inl ⟨by rfl, ?_⟩) (by assumption) ?_
  rotate_left
  · (intro w hSw; (try dsimp only at hSw); first | (go_simp; done) | (go_simp; with_reducible rfl))
  simp only [Act.put, List.setIfInBounds_toArray, List.set_cons_zero, List.set_cons_succ]
  refine wpAnyH_take (i := 2) (oi := { dst := some 6, op := Op.load 9 (Operand.tmp 1), type := 9, pos := "parts.go:44", after := #[], guard := none }) (v := ?_) rfl (by kernel_rfl) (by kernel_rfl) (by kernel_rfl) (fun _ _ _ h => h) (Or.inl ⟨by rfl, ?_⟩) (by assumption) ?_
  rotate_left
  · (intro w hSw; (try dsimp only at hSw); first | (go_simp; done) | (go_simp; with_reducible rfl))
  simp only [Act.put, List.setIfInBounds_toArray, List.set_cons_zero, List.set_cons_succ]
  refine wpAnyH_ready (rs := [1]) (by kernel_rfl) (by simp) ?_
  refine AllReadyH.cons (i := 1) (o := { dst := some 5, op := Op.call { callee := Callee.value (Operand.func 22), args := #[Operand.tmp 4], argTypes := #[34] }, type := 9, pos := "parts.go:44", after := #[{ on := 0, ground := Ground.data }], guard := none }) rfl (fun K hK => ?_) AllReadyH.nil
  go_simp
  refine (HP.out _ B1.out).mono ?_
  rintro e w2 ⟨rfl, b2⟩
  replace x1 := hide (cell_below x1.out b2)
  replace K1 := hide (K1.out.below b2)
  have B2 := hide (chain B1.out b2)
  clear b2
  go_wp2_with fail
  refine hK.out _ _ ?_ (fun hHeld => ?_)
  · exact ⟨⟨K1.out.cell 0 rfl, K1.out.cell 1 rfl, K1.out.cell 2 rfl, K1.out.cell 3 rfl, K1.out.cell 4 rfl⟩, x1.out⟩
  clear hK K
  refine wpAnyH_ready (rs := [3]) (by kernel_rfl) (by simp) ?_
  refine AllReadyH.cons (i := 3) (o := { dst := some 7, op := Op.call { callee := Callee.value (Operand.func 32), args := #[Operand.tmp 5, Operand.tmp 6], argTypes := #[9, 9] }, type := 4, pos := "parts.go:44", after := #[{ on := 1, ground := Ground.data }, { on := 2, ground := Ground.data }, { on := 1, ground := Ground.chain }], guard := none }) rfl (fun K hK => ?_) AllReadyH.nil
  go_simp
  refine (HC.out _ B2.out).mono ?_
  rintro e w3 ⟨rfl, hu⟩
  obtain rfl : w2 = w3 := hu.symm
  go_wp2_with fail
  refine hK.out _ _ ?_ (fun hHeld => ?_)
  · exact ⟨⟨K1.out.cell 0 rfl, K1.out.cell 1 rfl, K1.out.cell 2 rfl, K1.out.cell 3 rfl, K1.out.cell 4 rfl⟩, x1.out⟩
  clear hK K
  refine wpAnyH_take (i := 4) (oi := { dst := some 3, op := Op.assign (Operand.tmp 7), type := 4, pos := "parts.go:44", after := #[{ on := 3, ground := Ground.data }, { on := 3, ground := Ground.chain }, { on := 0, ground := Ground.phase }, { on := 1, ground := Ground.phase }, { on := 2, ground := Ground.phase }, { on := 3, ground := Ground.phase }], guard := none }) (v := ?_) rfl (by kernel_rfl) (by kernel_rfl) (by kernel_rfl) (fun _ _ _ h => h) (Or.inl ⟨by rfl, ?_⟩) (by assumption) ?_
  rotate_left
  · (intro w hSw; (try dsimp only at hSw); first | (go_simp; done) | (go_simp; with_reducible rfl))
  simp only [Act.put, List.setIfInBounds_toArray, List.set_cons_zero, List.set_cons_succ]
  refine wpAnyH_done (by kernel_rfl) ?_ _
  go_wp2_with fail
  go_ret
  exact ⟨rfl, B2.out⟩
theorem entersClear1 : ∀ args w, (callFunc 31 args).run Tryd.prog w = .ok (.enter 31 args) w := Go.Proofs.enters_of Tryd.func31 (by kernel_rfl) rfl
theorem clr_any (l : List En) (b : List UInt8) : clrL l b = (fitL b && !(l.any fun e => (cutL b (partL e)).isSome)) := by
  unfold clrL
  congr 1
  induction l with
  | nil => rfl
  | cons e l ih =>
    rw [List.all_cons, List.any_cons, ih]
    cases cutL b (partL e) <;> simp
set_option maxHeartbeats 8000000 in
theorem ptClear_any (n : Nat) (v : Value) (l : List En) (b : ByteArray) (w : World) (hv : FilesV w v l) (hn : n ≤ 1000000) (hl : EnsOK n l) (hb : b.size ≤ 1000) (hT : PtTabs w) :
    Calls Tryd.prog 21 #[v, .string b] w fun e w' => e = .returned (.bool (clrL l (bL b))) ∧ Below w.heap.size w w' := by
  have B0 : Hid (Below w.heap.size w (w.alloc (.cells #[.string b] 9))) := (Below.refl _ w).alloc (Nat.le_refl _) _
  have x0 : (w.alloc (.cells #[.string b] 9)).cell? ⟨w.heap.size, 0, none⟩ = some (.string b) := (Bk.new w [.string b] 9).cell 0 rfl
  have HF := hide (fun W => ptFitW_any b W (by omega))
  have HZ := hide (ens_z hl hn)
  have E := hide (clr_any l (bL b))
  have l200 := hl.len
  obtain ⟨p, c, rfl⟩ := files_formP hv
  cases ft : fitL (bL b) with
  | false =>
    rw [ft, Bool.false_and] at E
    rw [ft] at HF
    clear ft hv hl HZ hT
    go_enter Tryd.func21, Tryd.ntmps21
    go_wp2_with fail
    refine (HF.out _).mono ?_
    rintro e w1 ⟨rfl, hu⟩
    obtain rfl := hu.symm
    go_wp2_with fail
    go_ret
    exact ⟨ret_bool E.out.symm, B0.out⟩
  | true =>
    have hb0 : 0 < b.size := by have := (fit_pos ft).1; rw [len_bL] at this; exact this
    rw [ft, Bool.true_and] at E
    rw [ft] at HF
    have HC := hide (containsFuncE_any _ l (fun e => (cutL (bL b) (partL e)).isSome) 31 #[.pointer (some ⟨w.heap.size, 0, none⟩)] entersClear1 _ (hv.below B0.out) (fun W x hx hbW => clear1_any b w.heap.size x W (cell_below x0 hbW) (HZ.out x hx) hb0 ((hT.below B0.out).below hbW)) (by omega))
    clear ft hv hl HZ hT hb0
    generalize l.any (fun e => (cutL (bL b) (partL e)).isSome) = A at *
    generalize clrL l (bL b) = R at *
    go_enter Tryd.func21, Tryd.ntmps21
    go_wp2_with fail
    refine (HF.out _).mono ?_
    rintro e w1 ⟨rfl, hu⟩
    obtain rfl := hu.symm
    go_wp2_with fail
    refine HC.out.mono ?_
    rintro e w2 ⟨rfl, b2⟩
    have B2 := hide (chain B0.out b2)
    clear b2 HC B0
    go_wp2_with fail
    go_ret
    exact ⟨ret_bool E.out.symm, B2.out⟩
end Go.Proofs.YtmnpnpmopbkabaaDoor

namespace Go.Proofs.YtmnpnpmopbkabaaDoor
open Go.RowKit
set_option maxRecDepth 100000
set_option maxHeartbeats 8000000 in
theorem ptEncode_any (n : Nat) (v : Value) (l : List En) (b : ByteArray) (w : World) (hv : FilesV w v l) (hn : n ≤ 1000000) (hl : EnsOK n l) (hb : b.size ≤ 1000) (hT : PtTabs w) :
    Calls Tryd.prog 11 #[v, .string b] w fun e w' => e = .returned (.tuple #[.string (encT20 l b), .int .i64 (encE20 l b)]) ∧ Below w.heap.size w w' := by
  have FV := hide hv
  have HC := hide (ptClear_any n v l b w hv hn hl hb hT)
  have HZ := hide (ens_z hl hn)
  have HT := hide hT
  have l200 := hl.len
  obtain ⟨p, c, rfl⟩ := files_formP hv
  have PT := hide (fun k => enT_len (b := bL b) HZ.out l200 (by rw [len_bL]; exact hb) k)
  have D1 : ((⟨#[45, 45]⟩ : ByteArray) ++ b).size ≤ 1002 := app_le (show (⟨#[45, 45]⟩ : ByteArray).size ≤ 2 by decide) hb
  clear hv hl hT
  cases q : clrL l (bL b) with
  | false =>
    rw [q] at HC
    have E1 : Hid (encT20 l b = ⟨#[]⟩) := by show _ = _; unfold encT20; rw [q]; rfl
    have E2 : Hid (encE20 l b = 10) := by show _ = _; unfold encE20; rw [q]; rfl
    clear q FV HZ PT HT
    go_enter Tryd.func11, Tryd.ntmps11
    go_wp2_with fail
    refine HC.out.mono ?_
    rintro e w1 ⟨rfl, b1⟩
    go_wp2_with fail
    go_ret2
    exact ⟨ret_chs E1.out.symm E2.out.symm, b1⟩
  | true =>
    rw [q] at HC
    have E1 : Hid (txt (encP l (bL b)) = encT20 l b) := by show _ = _; unfold encT20; rw [q]; rfl
    have E2 : Hid (encE20 l b = 0) := by show _ = _; unfold encE20; rw [q]; rfl
    clear q
    have D2 : ((⟨#[45, 45]⟩ : ByteArray) ++ b ++ (⟨#[13, 10]⟩ : ByteArray)).size ≤ 1004 := app_le D1 (show (⟨#[13, 10]⟩ : ByteArray).size ≤ 2 by decide)
    have D3 : ((⟨#[45, 45]⟩ : ByteArray) ++ b ++ (⟨#[45, 45]⟩ : ByteArray)).size ≤ 1004 := app_le D1 (show (⟨#[45, 45]⟩ : ByteArray).size ≤ 2 by decide)
    have D4 : ((⟨#[45, 45]⟩ : ByteArray) ++ b ++ (⟨#[45, 45]⟩ : ByteArray) ++ (⟨#[13, 10]⟩ : ByteArray)).size ≤ 1006 := app_le D3 (show (⟨#[13, 10]⟩ : ByteArray).size ≤ 2 by decide)
    have L2 : Hid (bL ((⟨#[45, 45]⟩ : ByteArray) ++ b ++ (⟨#[13, 10]⟩ : ByteArray)) = ([45, 45] ++ bL b) ++ [13, 10]) := by show _ = _; rw [bL_app, bL_app]
    have L4 : Hid (bL ((⟨#[45, 45]⟩ : ByteArray) ++ b ++ (⟨#[45, 45]⟩ : ByteArray) ++ (⟨#[13, 10]⟩ : ByteArray)) = ([45, 45] ++ bL b) ++ [45, 45, 13, 10]) := by show _ = _; rw [bL_app, bL_app, bL_app, List.append_assoc]; rfl
    have sx1 : (⟨#[13, 10]⟩ : ByteArray).size = 2 := rfl
    go_enter Tryd.func11, Tryd.ntmps11
    go_wp2_with fail
    refine HC.out.mono ?_
    rintro e w1 ⟨rfl, b1⟩
    have B1 := hide b1
    have HB0 := hide (HoldsK.new w1)
    have AL0 : Hid (Below w1.heap.size w1 (w1.alloc (.cells #[.pointer none, .slice none 0 0] 43))) := (Below.refl _ w1).alloc (Nat.le_refl _) _
    have SZ0 : Hid (w1.heap.size < (w1.alloc (.cells #[.pointer none, .slice none 0 0] 43)).heap.size) := by show _ < _; simp
    have EN0 : Hid (enT l (bL b) 0 = []) := rfl
    clear b1 HC
    go_wp2_with fail
    go_loopw [15] (fun iv wr => ∃ k : Nat, k ≤ l.length ∧ iv = .int .i64 k ∧ HoldsK w1.heap.size w1.heap.size (enT l (bL b) k) wr ∧ Hid (Below w1.heap.size w1 wr) ∧ Hid (w1.heap.size < wr.heap.size)) (fun iv _ => l.length - (intOf iv).toNat)
    case atStart => exact ⟨0, Nat.zero_le _, rfl, by rw [EN0.out]; exact HB0.out, AL0, SZ0⟩
    case round =>
      rename World => wr
      obtain ⟨k, hk, rfl, HB, BW, SW⟩ := hrel
      clear HB0 AL0 SZ0 EN0
      have L0 := PT.out k
      by_cases g : k < l.length
      · have k1 : (k : Int) < (l.length : Int) := by omega
        have k0 : (0 : Int) ≤ (k : Int) := by omega
        obtain ⟨bb, oo, rfl, EA⟩ := en_of (FV.out.below (chain B1.out BW.out)) g
        have zq := HZ.out _ (List.getElem_mem g)
        have ps := part_size zq
        have HP := hide (fun W (hb : Below w.heap.size w W) => part_any l[k] W zq (HT.out.below hb))
        have EX : Hid (enT l (bL b) (k + 1) = ((((enT l (bL b) k ++ [45, 45]) ++ bL b) ++ [13, 10]) ++ bL (txt (partL l[k]))) ++ [13, 10]) := enT_next l (bL b) g
        have zp : (txt (partL l[k])).size ≤ 16000200 := by show (partL l[k]).length ≤ _; omega
        have a0 := EA.c0
        have a1 := EA.c1
        have a2 := EA.c2
        have a3 := EA.c3
        have a4 := EA.c4
        clear EA zq ps HZ FV PT E1 E2 L4 D3 D4 HT
        generalize txt (partL l[k]) = pt at *
        obtain ⟨C1, hC1⟩ : ∃ x, enT l (bL b) (k + 1) = x := ⟨_, rfl⟩
        rw [hC1] at EX
        have HC1 := hide hC1
        clear hC1
        generalize hC : enT l (bL b) k = C at EX L0 HB
        clear hC
        generalize l[k] = ek at *
        have KE := hide (Bk.new wr [.string ek.name, .string ek.val, .bool ek.file, .string ek.fname, .string ek.typ] 34)
        have AL : Below wr.heap.size wr (wr.alloc (.cells #[.string ek.name, .string ek.val, .bool ek.file, .string ek.fname, .string ek.typ] 34)) := (Below.refl _ wr).alloc (Nat.le_refl _) _
        have HBa := hide (HB.below AL)
        have Bwa : Hid (Below w1.heap.size w1 (wr.alloc (.cells #[.string ek.name, .string ek.val, .bool ek.file, .string ek.fname, .string ek.typ] 34))) := chain BW.out AL
        have GE : Hid (wr.heap.size ≠ w1.heap.size) := by show _ ≠ _; have := SW.out; omega
        have SWa : Hid (w1.heap.size < (wr.alloc (.cells #[.string ek.name, .string ek.val, .bool ek.file, .string ek.fname, .string ek.typ] 34)).heap.size) := by show _ < _; have := SW.out; have := AL.size; omega
        clear AL HB SW
        have tyne : 34 ≠ 5 := by decide
        generalize hB2 : ((⟨#[45, 45]⟩ : ByteArray) ++ b ++ (⟨#[13, 10]⟩ : ByteArray)) = hd at D2 L2
        have HD := hide hB2
        clear hB2
        go_wp2_with fail
        rw [HD.out]
        generalize wr.alloc (.cells #[.string ek.name, .string ek.val, .bool ek.file, .string ek.fname, .string ek.typ] 34) = wa at *
        refine (writeStringK w1.heap.size w1.heap.size C hd wa HBa.out (by omega) Bwa.out.size).mono ?_
        rintro e w2 ⟨rfl, h2, b2, k2⟩
        have K2 := hide (KE.out.oth k2 GE.out tyne)
        have H2 := hide h2
        have B2 : Hid (Below w1.heap.size w1 w2) := Bwa.out.trans b2
        have x0 := K2.out.cell 0 rfl
        have x1 := K2.out.cell 1 rfl
        have x2 := K2.out.cell 2 rfl
        have x3 := K2.out.cell 3 rfl
        have x4 := K2.out.cell 4 rfl
        clear h2 b2 k2 KE HBa Bwa
        go_wp2_with fail
        refine (HP.out _ (chain B1.out B2.out)).mono ?_
        rintro e w3 ⟨rfl, b3⟩
        have H3 := hide (H2.out.below b3)
        have B3 := hide (chain B2.out b3)
        have C3 : (C ++ hd.data.toList).length ≤ 4000001004 := by rw [List.length_append]; show C.length + (bL hd).length ≤ _; rw [len_bL]; omega
        clear b3 H2 HP x0 x1 x2 x3 x4
        go_wp2_with fail
        refine (writeStringK w1.heap.size w1.heap.size (C ++ hd.data.toList) pt w3 H3.out (by omega) B3.out.size).mono ?_
        rintro e w4 ⟨rfl, h4, b4, _⟩
        have H4 := hide h4
        have B4 : Hid (Below w1.heap.size w1 w4) := B3.out.trans b4
        have C4 : (C ++ hd.data.toList ++ pt.data.toList).length ≤ 4016001204 := by rw [List.length_append]; show _ + (bL pt).length ≤ _; rw [len_bL]; omega
        clear h4 b4 H3
        go_wp2_with fail
        refine (writeStringK w1.heap.size w1.heap.size (C ++ hd.data.toList ++ pt.data.toList) ⟨#[13, 10]⟩ w4 H4.out (by omega) B4.out.size).mono ?_
        rintro e w5 ⟨rfl, h5, b5, _⟩
        have H5 : Hid (HoldsK w1.heap.size w1.heap.size C1 w5) := by
          show HoldsK _ _ _ _
          rw [EX.out]
          have : ((((C ++ [45, 45]) ++ bL b) ++ [13, 10]) ++ bL pt) ++ [13, 10] = ((C ++ hd.data.toList) ++ pt.data.toList) ++ (⟨#[13, 10]⟩ : ByteArray).data.toList := by
            show _ = ((C ++ bL hd) ++ bL pt) ++ [13, 10]
            rw [L2.out]; simp
          rw [this]; exact h5
        have B5 : Hid (Below w1.heap.size w1 w5) := B4.out.trans b5
        have S5 : Hid (w1.heap.size < w5.heap.size) := holdsK_lt H5.out
        clear h5 b5 H4
        go_wp2_with fail
        go_roundw
        case rel => exact ⟨k + 1, by omega, by go_num, by rw [HC1.out]; exact H5.out, B5, S5⟩
        case measure => simp [intOf]; omega
      · obtain rfl : k = l.length := by omega
        have EA : Hid (((enT l (bL b) l.length ++ [45, 45]) ++ bL b) ++ [45, 45, 13, 10] = encP l (bL b)) := enT_all l (bL b)
        clear FV HZ PT HT D2 L2
        generalize enT l (bL b) l.length = C at *
        generalize encP l (bL b) = EP at *
        generalize hB2 : ((⟨#[45, 45]⟩ : ByteArray) ++ b ++ (⟨#[45, 45]⟩ : ByteArray) ++ (⟨#[13, 10]⟩ : ByteArray)) = hd at D4 L4
        have HD := hide hB2
        clear hB2
        go_wp2_with fail
        rw [HD.out]
        refine (writeStringK w1.heap.size w1.heap.size C hd wr HB (by omega) BW.out.size).mono ?_
        rintro e w2 ⟨rfl, h2, b2, _⟩
        have H2 : Hid (HoldsK w1.heap.size w1.heap.size EP w2) := by
          show HoldsK _ _ _ _
          rw [← EA.out]
          have : (((C ++ [45, 45]) ++ bL b) ++ [45, 45, 13, 10]) = C ++ hd.data.toList := by
            show _ = C ++ bL hd
            rw [L4.out]; simp
          rw [this]; exact h2
        have B2 : Hid (Below w1.heap.size w1 w2) := BW.out.trans b2
        clear h2 b2 HB EA L4
        go_wp2_with fail
        refine (builderTextK _ _ _ _ H2.out B2.out.size).mono ?_
        rintro e w3 ⟨rfl, h3, b3, _⟩
        have B3 : Hid (Below w1.heap.size w1 w3) := B2.out.trans b3
        clear h3 b3
        go_wp2_with fail
        go_ret2
        exact ⟨ret_chs E1.out E2.out.symm, chain B1.out B3.out⟩
end Go.Proofs.YtmnpnpmopbkabaaDoor

namespace Go.Proofs.YtmnpnpmopbkabaaDoor
open Go.RowKit
set_option maxRecDepth 100000
theorem ret_bodP {a b c d : ByteArray} {e f : Int} (h1 : a = b) (h2 : c = d) (h3 : e = f) : Ending.returned (.tuple #[.string a, .string c, .int .i64 e]) = .returned (.tuple #[.string b, .string d, .int .i64 f]) := by rw [h1, h2, h3]
set_option maxHeartbeats 8000000 in
theorem plBody_any (n : Nat) (kind : Int) (v : Value) (l : List En) (b : ByteArray) (w : World) (hv : FilesV w v l) (hn : n ≤ 1000000) (hl : EnsOK n l) (hb : b.size ≤ 1000) (hT : PlTabs w) :
    Calls Tryd.prog 6 #[.int .i64 kind, v, .string b] w fun e w' => e = .returned (.tuple #[.string (bodT kind l b), .string (bodY kind l b), .int .i64 (bodE kind l b)]) ∧ Below w.heap.size w w' := by
  have HU := hide (urEncode_any n v l w hv hn hl hT.1)
  have HP := hide (ptEncode_any n v l b w hv hn hl hb hT.2)
  have HE := hide (plEncode_any n v l w hv hn hl hT)
  have C1 := hide (fun W => clone_any uY W (by decide))
  have C3 := hide (fun W => clone_any tY W (by decide))
  obtain ⟨p, c, rfl⟩ := files_formP hv
  clear hv hl hT
  by_cases h1 : kind = 1
  · subst h1
    have E1 : Hid (bodT 1 l b = urlS l) := by show _ = _; unfold bodT; rw [if_pos rfl]
    have E2 : Hid (bodY 1 l b = uY) := by show _ = _; unfold bodY; rw [if_pos rfl]
    have E3 : Hid (bodE 1 l b = 0) := by show _ = _; unfold bodE; rw [if_pos rfl]
    have q1 : ((1 : Int) == 1) = true := rfl
    clear HP HE C3
    generalize bodT 1 l b = x1 at *
    generalize bodY 1 l b = x2 at *
    generalize bodE 1 l b = x3 at *
    generalize urlS l = u at *
    go_enter Tryd.func6, Tryd.ntmps6
    go_wp2_with fail
    refine HU.out.mono ?_
    rintro e w1 ⟨rfl, b1⟩
    have B1 := hide b1
    clear b1 HU
    go_wp2_with fail
    refine (C1.out w1).mono ?_
    rintro e w2 ⟨rfl, b2⟩
    have B2 := hide (chain B1.out b2)
    clear b2 C1 B1
    go_wp2_with fail
    go_ret3
    exact ⟨ret_bodP E1.out.symm E2.out.symm E3.out.symm, B2.out⟩
  · by_cases h2 : kind = 2
    · subst h2
      have E3 : Hid (bodE 2 l b = encE20 l b) := by show _ = _; unfold bodE; rw [if_neg (by decide), if_pos rfl]
      have E1 : Hid (bodT 2 l b = encT20 l b) := by show _ = _; unfold bodT; rw [if_neg (by decide), if_pos rfl]
      have q1 : ((2 : Int) == 1) = false := rfl
      have q2 : ((2 : Int) == 2) = true := rfl
      clear HU HE C1 C3
      cases cl : clrL l (bL b) with
      | false =>
        have E2 : Hid (bodY 2 l b = ⟨#[]⟩) := by show _ = _; unfold bodY; rw [if_neg (by decide), if_pos rfl, cl]; rfl
        have E4 : encT20 l b = ⟨#[]⟩ := by unfold encT20; rw [cl]; rfl
        have E5 : encE20 l b = 10 := by unfold encE20; rw [cl]; rfl
        rw [E4] at HP E1
        rw [E5] at HP E3
        clear E4 E5 cl
        generalize bodT 2 l b = x1 at *
        generalize bodY 2 l b = x2 at *
        generalize bodE 2 l b = x3 at *
        go_enter Tryd.func6, Tryd.ntmps6
        go_wp2_with fail
        refine HP.out.mono ?_
        rintro e w1 ⟨rfl, b1⟩
        have B1 := hide b1
        clear b1 HP
        go_wp2_with fail
        go_ret3
        exact ⟨ret_bodP E1.out.symm E2.out.symm E3.out.symm, B1.out⟩
      | true =>
        have E2 : Hid (bodY 2 l b = mY ++ b) := by show _ = _; unfold bodY; rw [if_neg (by decide), if_pos rfl, cl]; rfl
        have E5 : encE20 l b = 0 := by unfold encE20; rw [cl]; rfl
        rw [E5] at HP E3
        clear E5 cl
        generalize bodT 2 l b = x1 at *
        generalize bodY 2 l b = x2 at *
        generalize bodE 2 l b = x3 at *
        generalize encT20 l b = u at *
        have D1 : ((⟨#[109, 117, 108, 116, 105, 112, 97, 114, 116, 47, 102, 111, 114, 109, 45, 100, 97, 116, 97, 59, 32, 98, 111, 117, 110, 100, 97, 114, 121, 61]⟩ : ByteArray) ++ b).size ≤ 1030 := app_le (show (⟨#[109, 117, 108, 116, 105, 112, 97, 114, 116, 47, 102, 111, 114, 109, 45, 100, 97, 116, 97, 59, 32, 98, 111, 117, 110, 100, 97, 114, 121, 61]⟩ : ByteArray).size ≤ 30 by decide) hb
        go_enter Tryd.func6, Tryd.ntmps6
        go_wp2_with fail
        refine HP.out.mono ?_
        rintro e w1 ⟨rfl, b1⟩
        have B1 := hide b1
        clear b1 HP
        go_wp2_with fail
        go_ret3
        exact ⟨ret_bodP E1.out.symm E2.out.symm E3.out.symm, B1.out⟩
    · have q1 : (kind == 1) = false := beq_eq_false_iff_ne.2 h1
      have q2 : (kind == 2) = false := beq_eq_false_iff_ne.2 h2
      by_cases h3 : kind = 3
      · subst h3
        have E1 : Hid (bodT 3 l b = txt (encN l)) := by show _ = _; unfold bodT; rw [if_neg (by decide), if_neg (by decide), if_pos rfl]
        have E2 : Hid (bodY 3 l b = tY) := by show _ = _; unfold bodY; rw [if_neg (by decide), if_neg (by decide), if_pos rfl]
        have E3 : Hid (bodE 3 l b = 0) := by show _ = _; unfold bodE; rw [if_neg (by decide), if_neg (by decide), if_pos rfl]
        clear HU HP C1
        generalize bodT 3 l b = x1 at *
        generalize bodY 3 l b = x2 at *
        generalize bodE 3 l b = x3 at *
        generalize txt (encN l) = u at *
        go_enter Tryd.func6, Tryd.ntmps6
        go_wp2_with fail
        refine HE.out.mono ?_
        rintro e w1 ⟨rfl, b1⟩
        have B1 := hide b1
        clear b1 HE
        go_wp2_with fail
        refine (C3.out w1).mono ?_
        rintro e w2 ⟨rfl, b2⟩
        have B2 := hide (chain B1.out b2)
        clear b2 C3 B1
        go_wp2_with fail
        go_ret3
        exact ⟨ret_bodP E1.out.symm E2.out.symm E3.out.symm, B2.out⟩
      · have q3 : (kind == 3) = false := beq_eq_false_iff_ne.2 h3
        have E1 : Hid (bodT kind l b = ⟨#[]⟩) := by show _ = _; unfold bodT; rw [if_neg h1, if_neg h2, if_neg h3]
        have E2 : Hid (bodY kind l b = ⟨#[]⟩) := by show _ = _; unfold bodY; rw [if_neg h1, if_neg h2, if_neg h3]
        have E3 : Hid (bodE kind l b = 3) := by show _ = _; unfold bodE; rw [if_neg h1, if_neg h2, if_neg h3]
        clear HU HP HE C1 C3 h1 h2 h3
        generalize bodT kind l b = x1 at *
        generalize bodY kind l b = x2 at *
        generalize bodE kind l b = x3 at *
        go_enter Tryd.func6, Tryd.ntmps6
        go_wp2_with fail
        go_ret3
        exact ⟨ret_bodP E1.out.symm E2.out.symm E3.out.symm, Below.refl _ _⟩

end Go.Proofs.YtmnpnpmopbkabaaDoor
