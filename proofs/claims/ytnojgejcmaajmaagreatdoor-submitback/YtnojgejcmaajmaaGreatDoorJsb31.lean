/- The program's copying of states. The program's find, has, startsByAttribute, inAttribute of layer 14. The program's fileValue and Value of layer 14. The program's valueOf, Value of layer 18. -/
import Derived.Test.YtnojgejcmaajmaaGreatDoorJsb17
import Derived.Test.YtnojgejcmaajmaaGreatDoorJsb30

namespace Go.Proofs.YtnojgejcmaajmaaGreatDoor
open Go.RowKit
set_option maxRecDepth 100000
theorem FsO.files {B : Nat} {w : World} {C : List Ct} {F : List Value} (h : FsO B w C F) : FilesIn w C F := ⟨h.len, fun i hi => (h.at_ i hi).files⟩
end Go.Proofs.YtnojgejcmaajmaaGreatDoor

namespace Go.Proofs.YtnojgejcmaajmaaGreatDoor
open Go.RowKit
set_option maxRecDepth 100000
def iaB (k : Int) : Bool := decide (isPush k = true ∨ modeV k = 2)
theorem ret_fndC {a b : ByteArray} {c d : Bool} (h : a = b) (g : c = d) : Ending.returned (.tuple #[.string a, .bool c]) = .returned (.tuple #[.string b, .bool d]) := by rw [h, g]
set_option maxHeartbeats 4000000 in
theorem ctFind1_any (n : ByteArray) (B : Nat) (x : ByteArray × ByteArray) (W : World) (hc : W.cell? ⟨B, 0, none⟩ = some (.string n)) :
    Calls Tryz.prog 233 #[.agg #[.string x.1, .string x.2], .pointer (some ⟨B, 0, none⟩)] W fun e w' => e = .returned (.bool (isN n x)) ∧ Below W.heap.size W w' := by
  have hB := World.block_lt_of_cell? _ _ hc
  have hne : B ≠ W.heap.size := by have : B < W.heap.size := hB; omega
  have E := hide (txt_beq x.1 n)
  unfold isN
  generalize x.1 = a at *
  generalize x.2 = b at *
  generalize hR : decide (a = n) = R at *
  clear hR
  go_enter Tryz.func233, Tryz.ntmps233
  go_wp2_with fail
  go_ret
  exact ⟨ret_bool E.out, (Below.refl _ W).alloc (Nat.le_refl _) _⟩
theorem ctFind_pred (n : ByteArray) (w : World) : PredA 233 #[.pointer (some ⟨w.heap.size, 0, none⟩)] (isN n) (w.alloc (.cells #[.string n] 9)) := fun W x hb =>
  ctFind1_any n w.heap.size x W ((hb.cell (by simp)).trans (by simp))
theorem entersCtFind : ∀ args w, (callFunc 233 args).run Tryz.prog w = .ok (.enter 233 args) w := Go.Proofs.enters_of Tryz.func233 (by kernel_rfl) rfl
set_option maxHeartbeats 4000000 in
theorem ctFind_any (v : Value) (ax : List (ByteArray × ByteArray)) (n : ByteArray) (w : World) (hv : AttrsV w v ax) (hl : ax.length ≤ 4398046511104) :
    Calls Tryz.prog 194 #[v, .string n] w fun e w' => e = .returned (.tuple #[.string (fndS ax n), .bool (findA ax n).isSome]) ∧ Below w.heap.size w w' := by
  have B0 : Hid (Below w.heap.size w (w.alloc (.cells #[.string n] 9))) := (Below.refl _ w).alloc (Nat.le_refl _) _
  have HC := hide (indexFuncA_any v ax (isN n) 233 #[.pointer (some ⟨w.heap.size, 0, none⟩)] entersCtFind (w.alloc (.cells #[.string n] 9)) (hv.below B0.out) (ctFind_pred n w) hl)
  have HIT := hide (fun k hk (h : ax.findIdx? (isN n) = some k) => fnd_hit (ax := ax) (n := n) (k := k) hk h)
  have MISS := hide (fun (h : ax.findIdx? (isN n) = none) => fnd_miss (ax := ax) (n := n) h)
  generalize fndS ax n = R1 at *
  generalize (findA ax n).isSome = R2 at *
  obtain ⟨p, c, rfl, hk⟩ := hv
  cases h : ax.findIdx? (isN n) with
  | none =>
    have E := hide (MISS.out h)
    rw [h, show findV none = -1 from rfl] at HC
    clear hk HIT MISS h
    go_enter Tryz.func194, Tryz.ntmps194
    go_wp2_with fail
    refine HC.out.mono ?_
    rintro e w1 ⟨rfl, b1⟩
    go_wp2_with fail
    go_ret2
    exact ⟨ret_fndC E.out.1.symm E.out.2.symm, chain B0.out b1⟩
  | some i =>
    obtain ⟨hi, _, _⟩ := List.findIdx?_eq_some_iff_getElem.1 h
    have E := hide (HIT.out i hi h)
    rw [h, show findV (some i) = (i : Int) from rfl] at HC
    have i0 : (0 : Int) ≤ (i : Int) := by omega
    have i1 : (i : Int) < (ax.length : Int) := by omega
    have i2 : ¬ (i : Int) < 0 := by omega
    obtain ⟨b, o, rfl, hc⟩ : ∃ b o, p = some ⟨b, o, none⟩ ∧ ∀ i (h : i < ax.length), w.cell? ⟨b, o + i * 2, none⟩ = some (.string ax[i].1) ∧ w.cell? ⟨b, o + i * 2 + 1, none⟩ = some (.string ax[i].2) := by
      rcases hk with t | t
      · rw [t] at hi; simp at hi
      · exact t
    have c1 := hide (hc i hi).2
    clear hc HIT MISS h
    generalize ax[i].2 = t at *
    go_enter Tryz.func194, Tryz.ntmps194
    go_wp2_with fail
    refine HC.out.mono ?_
    rintro e w1 ⟨rfl, b1⟩
    have y1 := cell_below (cell_below c1.out B0.out) b1
    go_wp2_with fail
    go_ret2
    exact ⟨ret_fndC E.out.1.symm E.out.2.symm, chain B0.out b1⟩
set_option maxHeartbeats 4000000 in
theorem ctInAttr_any (k : Int) (w : World) :
    Calls Tryz.prog 196 #[.int .i64 k] w fun e w' => e = .returned (.bool (iaB k)) ∧ w' = w := by
  have HM := hide (mode_any k)
  rcases (show k = 25 ∨ k = 26 ∨ k = 27 ∨ (¬ k = 25 ∧ ¬ k = 26 ∧ ¬ k = 27) by omega) with q | q | q | ⟨n1, n2, n3⟩
  · subst q
    have E := hide (show iaB 25 = true from by decide)
    clear HM
    go_enter Tryz.func196, Tryz.ntmps196
    go_wp2_with fail
    go_ret
    exact ⟨ret_bool E.out.symm, rfl⟩
  · subst q
    have E := hide (show iaB 26 = true from by decide)
    clear HM
    go_enter Tryz.func196, Tryz.ntmps196
    go_wp2_with fail
    go_ret
    exact ⟨ret_bool E.out.symm, rfl⟩
  · subst q
    have E := hide (show iaB 27 = true from by decide)
    clear HM
    go_enter Tryz.func196, Tryz.ntmps196
    go_wp2_with fail
    go_ret
    exact ⟨ret_bool E.out.symm, rfl⟩
  · have E : Hid (iaB k = (modeV k == 2)) := by
      show _ = _
      unfold iaB isPush
      rw [Bool.eq_iff_iff, decide_eq_true_eq, decide_eq_true_eq, beq_iff_eq]
      constructor
      · rintro (t | t)
        · omega
        · exact t
      · exact .inr
    have b1 : (k == 25) = false := beq_eq_false_iff_ne.2 n1
    have b2 : (k == 26) = false := beq_eq_false_iff_ne.2 n2
    have b3 : (k == 27) = false := beq_eq_false_iff_ne.2 n3
    generalize modeV k = M at *
    generalize iaB k = R at *
    go_enter Tryz.func196, Tryz.ntmps196
    go_wp2_with fail
    refine (HM.out _).mono ?_
    rintro e u ⟨rfl, rfl⟩
    go_wp2_with fail
    go_ret
    exact ⟨ret_bool E.out.symm, rfl⟩
end Go.Proofs.YtnojgejcmaajmaaGreatDoor

namespace Go.Proofs.YtnojgejcmaajmaaGreatDoor
open Go.RowKit
set_option maxRecDepth 100000
theorem ret_txC {a b : ByteArray} (h : a = b) : Ending.returned (.string a) = .returned (.string b) := by rw [h]
set_option maxHeartbeats 8000000 in
theorem ctFile_any (fv : Value) (fs : List En) (w : World) (hf : FilesV w fv fs) (hF : FsOK fs) :
    Calls Tryz.prog 195 #[fv] w fun e w' => e = .returned (.string (fileT fs)) ∧ Below w.heap.size w w' := by
  obtain ⟨fp, fc, rfl, hk⟩ := hf
  cases fs with
  | nil =>
    have E := hide (show fileT [] = ⟨#[]⟩ from rfl)
    clear hk hF
    go_enter Tryz.func195, Tryz.ntmps195
    go_wp2_with fail
    go_ret
    exact ⟨ret_txC E.out.symm, Below.refl _ _⟩
  | cons en r =>
    have E := hide (show fileT (en :: r) = ⟨#[67, 58, 92, 102, 97, 107, 101, 112, 97, 116, 104, 92]⟩ ++ en.fname from rfl)
    obtain ⟨b, o, rfl, hc⟩ : ∃ b o, fp = some ⟨b, o, none⟩ ∧ ∀ i (h : i < (en :: r).length), EnAt w b (o + i * 5) (en :: r)[i] := by
      rcases hk with q | q
      · cases q
      · exact q
    have x3 : w.cell? ⟨b, o + 3, none⟩ = some (.string en.fname) := by have := (hc 0 (by simp)).c3; simpa using this
    have fb := hF.name en List.mem_cons_self
    have HC := hide (fun W => clone_any (⟨#[67, 58, 92, 102, 97, 107, 101, 112, 97, 116, 104, 92]⟩ ++ en.fname) W (by rw [ByteArray.size_append]; show 12 + _ ≤ _; omega))
    have nb : ¬ 9223372036854775807 < 12 + en.fname.size := by omega
    have hl : 0 < (en :: r).length := by simp
    have i1 : (0 : Int) < ((en :: r).length : Int) := by omega
    have i2 : (((en :: r).length : Int) == 0) = false := by rw [beq_eq_false_iff_ne]; omega
    have i3 : ¬ ((en :: r).length : Int) = 0 := by omega
    have i4 : ¬ (en :: r).length = 0 := by omega
    generalize fileT (en :: r) = R at *
    clear hk hF hc
    generalize en.fname = fnm at *
    generalize (en :: r).length = fl at *
    go_enter Tryz.func195, Tryz.ntmps195
    go_wp2_with fail
    refine (HC.out _).mono ?_
    rintro e w1 ⟨rfl, b1⟩
    go_wp2_with fail
    go_ret
    exact ⟨ret_txC E.out.symm, b1⟩
/-- Attributes, a state: of the machine's own lengths. -/
structure AxBig (ax : List (ByteArray × ByteArray)) : Prop where
  len : ax.length ≤ 4398046511104
  val : ∀ a ∈ ax, a.2.size ≤ 140737488355328
structure CtBig (C : Ct) : Prop where
  files : FsOK C.files
  val : C.val.size ≤ 140737488355328
theorem fnd_bigC {ax : List (ByteArray × ByteArray)} (hz : AxBig ax) (n : ByteArray) : (fndS ax n).size ≤ 140737488355328 := by
  unfold fndS
  cases h : findA ax n with
  | none => exact Nat.zero_le _
  | some i => 
    show ((ax.getD i at0).2).size ≤ _
    rw [List.getD_eq_getElem?_getD]
    cases g : ax[i]? with
    | none => exact Nat.zero_le _
    | some x => exact hz.val x (List.mem_of_getElem? g)
set_option maxHeartbeats 8000000 in
theorem ctValue_m1 (k : Int) (C : Ct) (fv : Value) (v : Value) (ax : List (ByteArray × ByteArray)) (w : World) (hf : FilesV w fv C.files) (hv : AttrsV w v ax) (_hz : AxBig ax) (hO : CtBig C) (hm : modeV k = 1) :
    Calls Tryz.prog 147 #[.int .i64 k, ctV C fv, v] w fun e w' => e = .returned (.string C.val) ∧ Below w.heap.size w w' := by
  have HM := hide (mode_any k)
  have HC := hide (fun W => clone_any C.val W (by have := hO.val; omega))
  rw [hm] at HM
  clear hO hm
  obtain ⟨p, c, rfl, _⟩ := hv
  obtain ⟨fp, fc, rfl, _⟩ := hf
  obtain ⟨c0, c1, c2, c3, c4, c5, c6, c7, c8, c9⟩ := C
  unfold ctV ctCells
  have B0 : Hid (Below w.heap.size w (w.alloc (.cells #[.string c0, .bool c1, .bool c2, .bool c3, .bool c4, .bool c5, .bool c6, .bool c7, .string c8, .slice fp c9.length fc] 113))) := (Below.refl _ w).alloc (Nat.le_refl _) _
  have NP := hide (Bk.new w [.string c0, .bool c1, .bool c2, .bool c3, .bool c4, .bool c5, .bool c6, .bool c7, .string c8, .slice fp c9.length fc] 113)
  go_enter Tryz.func147, Tryz.ntmps147
  go_upto_region 1 with fail
  generalize w.alloc (.cells #[.string c0, .bool c1, .bool c2, .bool c3, .bool c4, .bool c5, .bool c6, .bool c7, .string c8, .slice fp c9.length fc] 113) = w0 at *
  have p0 := NP.out.cell 0 rfl
  have p1 := NP.out.cell 1 rfl
  have p2 := NP.out.cell 2 rfl
  have p3 := NP.out.cell 3 rfl
  have p4 := NP.out.cell 4 rfl
  have p5 := NP.out.cell 5 rfl
  have p6 := NP.out.cell 6 rfl
  have p7 := NP.out.cell 7 rfl
  have p8 := NP.out.cell 8 rfl
  have p9 := NP.out.cell 9 rfl
  go_wp2_with fail
  refine (HM.out _).mono ?_
  rintro e u ⟨rfl, rfl⟩
  go_wp2_with fail
  refine (HC.out _).mono ?_
  rintro e w1 ⟨rfl, b1⟩
  have B1 := hide (chain B0.out b1)
  clear b1
  go_wp2_with fail
  go_ret
  exact ⟨rfl, B1.out⟩
set_option maxHeartbeats 8000000 in
theorem ctValue_m3y (k : Int) (C : Ct) (fv : Value) (v : Value) (ax : List (ByteArray × ByteArray)) (w : World) (hf : FilesV w fv C.files) (hv : AttrsV w v ax) (hz : AxBig ax) (_hO : CtBig C) (hm : modeV k = 3) (hq : (findA ax ⟨#[118, 97, 108, 117, 101]⟩).isSome = true) :
    Calls Tryz.prog 147 #[.int .i64 k, ctV C fv, v] w fun e w' => e = .returned (.string (fndS ax ⟨#[118, 97, 108, 117, 101]⟩)) ∧ Below w.heap.size w w' := by
  have HM := hide (mode_any k)
  have HFi := hide (fun W (hb : Below w.heap.size w W) => ctFind_any v ax ⟨#[118, 97, 108, 117, 101]⟩ W (hv.below hb) hz.len)
  have HC := hide (fun W => clone_any (fndS ax ⟨#[118, 97, 108, 117, 101]⟩) W (by have := fnd_bigC hz ⟨#[118, 97, 108, 117, 101]⟩; omega))
  rw [hm] at HM
  rw [hq] at HFi
  generalize fndS ax ⟨#[118, 97, 108, 117, 101]⟩ = fs at *
  clear hz hm hq
  obtain ⟨p, c, rfl, _⟩ := hv
  obtain ⟨fp, fc, rfl, _⟩ := hf
  obtain ⟨c0, c1, c2, c3, c4, c5, c6, c7, c8, c9⟩ := C
  unfold ctV ctCells
  have B0 : Hid (Below w.heap.size w (w.alloc (.cells #[.string c0, .bool c1, .bool c2, .bool c3, .bool c4, .bool c5, .bool c6, .bool c7, .string c8, .slice fp c9.length fc] 113))) := (Below.refl _ w).alloc (Nat.le_refl _) _
  have NP := hide (Bk.new w [.string c0, .bool c1, .bool c2, .bool c3, .bool c4, .bool c5, .bool c6, .bool c7, .string c8, .slice fp c9.length fc] 113)
  go_enter Tryz.func147, Tryz.ntmps147
  go_upto_region 1 with fail
  generalize w.alloc (.cells #[.string c0, .bool c1, .bool c2, .bool c3, .bool c4, .bool c5, .bool c6, .bool c7, .string c8, .slice fp c9.length fc] 113) = w0 at *
  have p0 := NP.out.cell 0 rfl
  have p1 := NP.out.cell 1 rfl
  have p2 := NP.out.cell 2 rfl
  have p3 := NP.out.cell 3 rfl
  have p4 := NP.out.cell 4 rfl
  have p5 := NP.out.cell 5 rfl
  have p6 := NP.out.cell 6 rfl
  have p7 := NP.out.cell 7 rfl
  have p8 := NP.out.cell 8 rfl
  have p9 := NP.out.cell 9 rfl
  go_wp2_with fail
  refine (HM.out _).mono ?_
  rintro e u ⟨rfl, rfl⟩
  go_wp2_with fail
  refine (HFi.out _ B0.out).mono ?_
  rintro e w1 ⟨rfl, b1⟩
  have B1 := hide (chain B0.out b1)
  clear b1
  go_wp2_with fail
  refine (HC.out _).mono ?_
  rintro e w2 ⟨rfl, b2⟩
  have B2 := hide (chain B1.out b2)
  clear b2
  go_wp2_with fail
  go_ret
  exact ⟨rfl, B2.out⟩
set_option maxHeartbeats 8000000 in
theorem ctValue_m3n (k : Int) (C : Ct) (fv : Value) (v : Value) (ax : List (ByteArray × ByteArray)) (w : World) (hf : FilesV w fv C.files) (hv : AttrsV w v ax) (hz : AxBig ax) (_hO : CtBig C) (hm : modeV k = 3) (hq : (findA ax ⟨#[118, 97, 108, 117, 101]⟩).isSome = false) :
    Calls Tryz.prog 147 #[.int .i64 k, ctV C fv, v] w fun e w' => e = .returned (.string ⟨#[111, 110]⟩) ∧ Below w.heap.size w w' := by
  have HM := hide (mode_any k)
  have HFi := hide (fun W (hb : Below w.heap.size w W) => ctFind_any v ax ⟨#[118, 97, 108, 117, 101]⟩ W (hv.below hb) hz.len)
  have HC := hide (fun W => clone_any ⟨#[111, 110]⟩ W (by decide))
  rw [hm] at HM
  rw [hq] at HFi
  generalize fndS ax ⟨#[118, 97, 108, 117, 101]⟩ = fs at *
  clear hz hm hq
  obtain ⟨p, c, rfl, _⟩ := hv
  obtain ⟨fp, fc, rfl, _⟩ := hf
  obtain ⟨c0, c1, c2, c3, c4, c5, c6, c7, c8, c9⟩ := C
  unfold ctV ctCells
  have B0 : Hid (Below w.heap.size w (w.alloc (.cells #[.string c0, .bool c1, .bool c2, .bool c3, .bool c4, .bool c5, .bool c6, .bool c7, .string c8, .slice fp c9.length fc] 113))) := (Below.refl _ w).alloc (Nat.le_refl _) _
  have NP := hide (Bk.new w [.string c0, .bool c1, .bool c2, .bool c3, .bool c4, .bool c5, .bool c6, .bool c7, .string c8, .slice fp c9.length fc] 113)
  go_enter Tryz.func147, Tryz.ntmps147
  go_upto_region 1 with fail
  generalize w.alloc (.cells #[.string c0, .bool c1, .bool c2, .bool c3, .bool c4, .bool c5, .bool c6, .bool c7, .string c8, .slice fp c9.length fc] 113) = w0 at *
  have p0 := NP.out.cell 0 rfl
  have p1 := NP.out.cell 1 rfl
  have p2 := NP.out.cell 2 rfl
  have p3 := NP.out.cell 3 rfl
  have p4 := NP.out.cell 4 rfl
  have p5 := NP.out.cell 5 rfl
  have p6 := NP.out.cell 6 rfl
  have p7 := NP.out.cell 7 rfl
  have p8 := NP.out.cell 8 rfl
  have p9 := NP.out.cell 9 rfl
  go_wp2_with fail
  refine (HM.out _).mono ?_
  rintro e u ⟨rfl, rfl⟩
  go_wp2_with fail
  refine (HFi.out _ B0.out).mono ?_
  rintro e w1 ⟨rfl, b1⟩
  have B1 := hide (chain B0.out b1)
  clear b1
  go_wp2_with fail
  refine (HC.out _).mono ?_
  rintro e w2 ⟨rfl, b2⟩
  have B2 := hide (chain B1.out b2)
  clear b2
  go_wp2_with fail
  go_ret
  exact ⟨rfl, B2.out⟩
set_option maxHeartbeats 8000000 in
theorem ctValue_m4 (k : Int) (C : Ct) (fv : Value) (v : Value) (ax : List (ByteArray × ByteArray)) (w : World) (hf : FilesV w fv C.files) (hv : AttrsV w v ax) (_hz : AxBig ax) (hO : CtBig C) (hm : modeV k = 4) :
    Calls Tryz.prog 147 #[.int .i64 k, ctV C fv, v] w fun e w' => e = .returned (.string (fileT C.files)) ∧ Below w.heap.size w w' := by
  have HM := hide (mode_any k)
  have HC := hide (fun W (hb : Below w.heap.size w W) => ctFile_any fv C.files W (hf.below hb) hO.files)
  generalize fileT C.files = R at *
  rw [hm] at HM
  clear hO hm
  obtain ⟨p, c, rfl, _⟩ := hv
  obtain ⟨fp, fc, rfl, _⟩ := hf
  obtain ⟨c0, c1, c2, c3, c4, c5, c6, c7, c8, c9⟩ := C
  unfold ctV ctCells
  have B0 : Hid (Below w.heap.size w (w.alloc (.cells #[.string c0, .bool c1, .bool c2, .bool c3, .bool c4, .bool c5, .bool c6, .bool c7, .string c8, .slice fp c9.length fc] 113))) := (Below.refl _ w).alloc (Nat.le_refl _) _
  have NP := hide (Bk.new w [.string c0, .bool c1, .bool c2, .bool c3, .bool c4, .bool c5, .bool c6, .bool c7, .string c8, .slice fp c9.length fc] 113)
  go_enter Tryz.func147, Tryz.ntmps147
  go_upto_region 1 with fail
  generalize w.alloc (.cells #[.string c0, .bool c1, .bool c2, .bool c3, .bool c4, .bool c5, .bool c6, .bool c7, .string c8, .slice fp c9.length fc] 113) = w0 at *
  have p0 := NP.out.cell 0 rfl
  have p1 := NP.out.cell 1 rfl
  have p2 := NP.out.cell 2 rfl
  have p3 := NP.out.cell 3 rfl
  have p4 := NP.out.cell 4 rfl
  have p5 := NP.out.cell 5 rfl
  have p6 := NP.out.cell 6 rfl
  have p7 := NP.out.cell 7 rfl
  have p8 := NP.out.cell 8 rfl
  have p9 := NP.out.cell 9 rfl
  go_wp2_with fail
  refine (HM.out _).mono ?_
  rintro e u ⟨rfl, rfl⟩
  go_wp2_with fail
  refine (HC.out _ B0.out).mono ?_
  rintro e w1 ⟨rfl, b1⟩
  have B1 := hide (chain B0.out b1)
  clear b1
  go_wp2_with fail
  go_ret
  exact ⟨rfl, B1.out⟩
set_option maxHeartbeats 8000000 in
theorem ctValue_iy (k : Int) (C : Ct) (fv : Value) (v : Value) (ax : List (ByteArray × ByteArray)) (w : World) (hf : FilesV w fv C.files) (hv : AttrsV w v ax) (hz : AxBig ax) (_hO : CtBig C) (hm : ¬ modeV k = 1 ∧ ¬ modeV k = 3 ∧ ¬ modeV k = 4) (hi : iaB k = true) :
    Calls Tryz.prog 147 #[.int .i64 k, ctV C fv, v] w fun e w' => e = .returned (.string (fndS ax ⟨#[118, 97, 108, 117, 101]⟩)) ∧ Below w.heap.size w w' := by
  have HM := hide (mode_any k)
  have HFi := hide (fun W (hb : Below w.heap.size w W) => ctFind_any v ax ⟨#[118, 97, 108, 117, 101]⟩ W (hv.below hb) hz.len)
  have HC := hide (fun W => clone_any (fndS ax ⟨#[118, 97, 108, 117, 101]⟩) W (by have := fnd_bigC hz ⟨#[118, 97, 108, 117, 101]⟩; omega))
  have HI := hide (ctInAttr_any k)
  have m1 : (modeV k == 1) = false := beq_eq_false_iff_ne.2 hm.1
  have m3 : (modeV k == 3) = false := beq_eq_false_iff_ne.2 hm.2.1
  have m4 : (modeV k == 4) = false := beq_eq_false_iff_ne.2 hm.2.2
  rw [hi] at HI
  generalize modeV k = M at *
  clear hi
  generalize fndS ax ⟨#[118, 97, 108, 117, 101]⟩ = fs at *
  generalize (findA ax ⟨#[118, 97, 108, 117, 101]⟩).isSome = fb at *
  clear hz hm
  obtain ⟨p, c, rfl, _⟩ := hv
  obtain ⟨fp, fc, rfl, _⟩ := hf
  obtain ⟨c0, c1, c2, c3, c4, c5, c6, c7, c8, c9⟩ := C
  unfold ctV ctCells
  have B0 : Hid (Below w.heap.size w (w.alloc (.cells #[.string c0, .bool c1, .bool c2, .bool c3, .bool c4, .bool c5, .bool c6, .bool c7, .string c8, .slice fp c9.length fc] 113))) := (Below.refl _ w).alloc (Nat.le_refl _) _
  have NP := hide (Bk.new w [.string c0, .bool c1, .bool c2, .bool c3, .bool c4, .bool c5, .bool c6, .bool c7, .string c8, .slice fp c9.length fc] 113)
  go_enter Tryz.func147, Tryz.ntmps147
  go_upto_region 1 with fail
  generalize w.alloc (.cells #[.string c0, .bool c1, .bool c2, .bool c3, .bool c4, .bool c5, .bool c6, .bool c7, .string c8, .slice fp c9.length fc] 113) = w0 at *
  have p0 := NP.out.cell 0 rfl
  have p1 := NP.out.cell 1 rfl
  have p2 := NP.out.cell 2 rfl
  have p3 := NP.out.cell 3 rfl
  have p4 := NP.out.cell 4 rfl
  have p5 := NP.out.cell 5 rfl
  have p6 := NP.out.cell 6 rfl
  have p7 := NP.out.cell 7 rfl
  have p8 := NP.out.cell 8 rfl
  have p9 := NP.out.cell 9 rfl
  go_wp2_with fail
  refine (HM.out _).mono ?_
  rintro e u ⟨rfl, rfl⟩
  go_wp2_with fail
  refine (HI.out _).mono ?_
  rintro e u ⟨rfl, rfl⟩
  go_wp2_with fail
  refine (HFi.out _ B0.out).mono ?_
  rintro e w1 ⟨rfl, b1⟩
  have B1 := hide (chain B0.out b1)
  clear b1
  go_wp2_with fail
  refine (HC.out _).mono ?_
  rintro e w2 ⟨rfl, b2⟩
  have B2 := hide (chain B1.out b2)
  clear b2
  go_wp2_with fail
  go_ret
  exact ⟨rfl, B2.out⟩
set_option maxHeartbeats 8000000 in
theorem ctValue_in (k : Int) (C : Ct) (fv : Value) (v : Value) (ax : List (ByteArray × ByteArray)) (w : World) (hf : FilesV w fv C.files) (hv : AttrsV w v ax) (_hz : AxBig ax) (_hO : CtBig C) (hm : ¬ modeV k = 1 ∧ ¬ modeV k = 3 ∧ ¬ modeV k = 4) (hi : iaB k = false) :
    Calls Tryz.prog 147 #[.int .i64 k, ctV C fv, v] w fun e w' => e = .returned (.string ⟨#[]⟩) ∧ Below w.heap.size w w' := by
  have HM := hide (mode_any k)
  have HI := hide (ctInAttr_any k)
  have m1 : (modeV k == 1) = false := beq_eq_false_iff_ne.2 hm.1
  have m3 : (modeV k == 3) = false := beq_eq_false_iff_ne.2 hm.2.1
  have m4 : (modeV k == 4) = false := beq_eq_false_iff_ne.2 hm.2.2
  rw [hi] at HI
  generalize modeV k = M at *
  clear hi
  clear hm
  obtain ⟨p, c, rfl, _⟩ := hv
  obtain ⟨fp, fc, rfl, _⟩ := hf
  obtain ⟨c0, c1, c2, c3, c4, c5, c6, c7, c8, c9⟩ := C
  unfold ctV ctCells
  have B0 : Hid (Below w.heap.size w (w.alloc (.cells #[.string c0, .bool c1, .bool c2, .bool c3, .bool c4, .bool c5, .bool c6, .bool c7, .string c8, .slice fp c9.length fc] 113))) := (Below.refl _ w).alloc (Nat.le_refl _) _
  have NP := hide (Bk.new w [.string c0, .bool c1, .bool c2, .bool c3, .bool c4, .bool c5, .bool c6, .bool c7, .string c8, .slice fp c9.length fc] 113)
  go_enter Tryz.func147, Tryz.ntmps147
  go_upto_region 1 with fail
  generalize w.alloc (.cells #[.string c0, .bool c1, .bool c2, .bool c3, .bool c4, .bool c5, .bool c6, .bool c7, .string c8, .slice fp c9.length fc] 113) = w0 at *
  have p0 := NP.out.cell 0 rfl
  have p1 := NP.out.cell 1 rfl
  have p2 := NP.out.cell 2 rfl
  have p3 := NP.out.cell 3 rfl
  have p4 := NP.out.cell 4 rfl
  have p5 := NP.out.cell 5 rfl
  have p6 := NP.out.cell 6 rfl
  have p7 := NP.out.cell 7 rfl
  have p8 := NP.out.cell 8 rfl
  have p9 := NP.out.cell 9 rfl
  go_wp2_with fail
  refine (HM.out _).mono ?_
  rintro e u ⟨rfl, rfl⟩
  go_wp2_with fail
  refine (HI.out _).mono ?_
  rintro e u ⟨rfl, rfl⟩
  go_wp2_with fail
  go_ret
  exact ⟨rfl, B0.out⟩
theorem ctValueB_any (k : Int) (C : Ct) (fv v : Value) (ax : List (ByteArray × ByteArray)) (w : World) (hf : FilesV w fv C.files) (hv : AttrsV w v ax) (hz : AxBig ax) (hO : CtBig C) :
    Calls Tryz.prog 147 #[.int .i64 k, ctV C fv, v] w fun e w' => e = .returned (.string (valueP k C ax)) ∧ Below w.heap.size w w' := by
  unfold valueP
  by_cases h1 : modeV k = 1
  · rw [if_pos h1]
    exact ctValue_m1 k C fv v ax w hf hv hz hO h1
  · rw [if_neg h1]
    by_cases h2 : modeV k = 2
    · rw [if_pos h2]
      exact ctValue_iy k C fv v ax w hf hv hz hO ⟨h1, by rw [h2]; decide, by rw [h2]; decide⟩ (decide_eq_true (.inr h2))
    · rw [if_neg h2]
      by_cases h3 : modeV k = 3
      · rw [if_pos h3]
        cases hq : (findA ax valS).isSome with
        | true =>
          rw [if_pos rfl]
          exact ctValue_m3y k C fv v ax w hf hv hz hO h3 hq
        | false =>
          rw [if_neg (by decide)]
          exact ctValue_m3n k C fv v ax w hf hv hz hO h3 hq
      · rw [if_neg h3]
        by_cases h4 : modeV k = 4
        · rw [if_pos h4]
          exact ctValue_m4 k C fv v ax w hf hv hz hO h4
        · rw [if_neg h4]
          cases hp : isPush k with
          | true =>
            rw [if_pos rfl]
            exact ctValue_iy k C fv v ax w hf hv hz hO ⟨h1, h3, h4⟩ (decide_eq_true (.inl hp))
          | false =>
            rw [if_neg (by decide)]
            exact ctValue_in k C fv v ax w hf hv hz hO ⟨h1, h3, h4⟩ (decide_eq_false (fun q => q.elim (fun q => by rw [hp] at q; cases q) h2))
end Go.Proofs.YtnojgejcmaajmaaGreatDoor

namespace Go.Proofs.YtnojgejcmaajmaaGreatDoor
open Go.RowKit
set_option maxRecDepth 100000
theorem undrewV {w w1 : World} (b : Below (w.drewN 1).heap.size (w.drewN 1) w1) : Below w.heap.size w w1 := ⟨b.os, b.tape, b.output, b.size, b.block⟩
set_option maxHeartbeats 8000000 in
theorem vaValueOf_any (nv cv : Value) (l : List Nd) (C : List Ct) (m : Nat) (w : World) (hD : DocV w nv cv l C) (hz : DocSz l) (hC : CsOK C) (hT : KTabs w) (hm : m < l.length) (hc : m < C.length) :
    Calls Tryz.prog 82 #[.agg #[nv, cv], .int .i64 (m : Int)] w fun e w' => e = .returned (.string (valE l C (m : Int))) ∧ Below w.heap.size w w' := by
  obtain ⟨F, hF⟩ := hD.cts
  have E0 := hide (OEnv.new w nv cv)
  have HVO := hide (fun W (hb : Below w.heap.size w W) => opValueG_any nv cv l C (m : Int) W (hD.below hb) hz (hT.below hb))
  have FI := hide (hF.1.at_ m hc)
  have FO := hC.fs _ (List.getElem_mem hc)
  have FX := hC.tx _ (List.getElem_mem hc)
  obtain ⟨_, pc, kc, rfl, hcs⟩ := hF
  obtain ⟨bc, oc, rfl, hct⟩ : ∃ b o, pc = some ⟨b, o, none⟩ ∧ ∀ i (h : i < C.length), CtAt w b (o + i * 10) C[i] (fvAt F i) := by
    rcases hcs with t | t
    · rw [t] at hc; simp at hc
    · exact t
  have CT := hide (hct m hc)
  have hv := hD.nds
  have hl := hz.len
  have hl2 := hC.len
  obtain ⟨p, c, rfl, hvv⟩ := hv
  obtain ⟨b, o, rfl, hnn⟩ : ∃ b o, p = some ⟨b, o, none⟩ ∧ ∀ i (h : i < l.length), ∃ va vk, NodeAt w b (o + i * 5) l[i] va vk := by
    rcases hvv with t | t
    · rw [t] at hm; simp at hm
    · exact t
  obtain ⟨va, vk, N⟩ := hnn m hm
  have nz := hz.nds _ (List.getElem_mem hm)
  have HO := hide (fun W (hb : Below w.heap.size w W) => of_any l[m] va vk W (hT.below hb) (N.at_.below hb) nz.attrs nz.tx)
  have EK : Hid (kOf l[m].name (tyOf l[m].attrs) = kI l (m : Int)) := by show _ = _; unfold kI kN; rw [Int.toNat_natCast, nd_at hm]
  rw [EK.out] at HO
  have HV := hide (fun k W (hb : Below w.heap.size w W) => ctValueB_any k C[m] (fvAt F m) va l[m].attrs W (FI.out.below hb) (N.at_.below hb) ⟨nz.attrs, fun a q => Nat.le_trans (nz.tx a q) (by decide)⟩ ⟨FO, FX.1⟩)
  have E : Hid (valE l C (m : Int) = if kI l (m : Int) = 23 then valueO l C (m : Int) else valueP (kI l (m : Int)) C[m] l[m].attrs) := by show _ = _; unfold valE; rw [Int.toNat_natCast, nd_at hm, st_nat hc]
  obtain ⟨pva, cva, rfl, hxx⟩ := N.at_
  clear hxx
  obtain ⟨pvk, cvk, rfl, hxx⟩ := N.ks
  clear hxx
  have c0 := hide N.name
  have c1 := hide N.text
  have c2 := hide N.attrs
  have c3 := hide N.parent
  have c4 := hide N.kids
  have m0 : (0 : Int) ≤ (m : Int) := by omega
  have m1 : (m : Int) < (l.length : Int) := by omega
  have HV2 := hide (fun W hb => HV.out (kI l (m : Int)) W hb)
  have m2 : (m : Int) < (C.length : Int) := by omega
  clear N hvv hnn nz hz EK hD hC hcs hct HV FO FX hT
  obtain ⟨fp, fc, efv, hxx⟩ := FI.out
  rw [efv] at CT HV2
  unfold ctV ctCells at HV2
  clear hxx FI efv
  generalize valE l C (m : Int) = RES at *
  generalize valueO l C (m : Int) = vo at *
  generalize valueP (kI l (m : Int)) C[m] l[m].attrs = vp at *
  generalize kI l (m : Int) = kk at *
  generalize l[m].name = n0 at *
  generalize l[m].text = n1 at *
  generalize l[m].parent = n3 at *
  generalize l[m].attrs.length = n5 at *
  generalize l[m].kids.length = n6 at *
  by_cases hk : kk = 23
  · rw [if_pos hk] at E
    subst hk
    clear HV2 CT
    have B0 := hide E0.out.bel
    have d0 := E0.out.doc.cell 0 rfl
    have d1 := E0.out.doc.cell 1 rfl
    have u0 := cell_below c0.out B0.out
    have u1 := cell_below c1.out B0.out
    have u2 := cell_below c2.out B0.out
    have u3 := cell_below c3.out B0.out
    have u4 := cell_below c4.out B0.out
    go_enter Tryz.func82, Tryz.ntmps82
    go_wp2_with fail
    refine (HO.out _ B0.out).mono ?_
    rintro e w1 ⟨rfl, b1⟩
    have E1 := hide (E0.out.step b1)
    clear b1 E0 B0 u0 u1 u2 u3 u4 d0 d1
    have d0 := E1.out.doc.cell 0 rfl
    have d1 := E1.out.doc.cell 1 rfl
    go_wp2_with fail
    refine (HVO.out _ E1.out.bel).mono ?_
    rintro e w2 ⟨rfl, b2⟩
    go_wp2_with fail
    go_ret
    exact ⟨ret_str E.out.symm, chain E1.out.bel b2⟩
  · rw [if_neg hk] at E
    have hkb : (kk == 23) = false := beq_eq_false_iff_ne.2 hk
    clear HVO
    have B0 := hide E0.out.bel
    have d0 := E0.out.doc.cell 0 rfl
    have d1 := E0.out.doc.cell 1 rfl
    have u0 := cell_below c0.out B0.out
    have u1 := cell_below c1.out B0.out
    have u2 := cell_below c2.out B0.out
    have u3 := cell_below c3.out B0.out
    have u4 := cell_below c4.out B0.out
    go_enter Tryz.func82, Tryz.ntmps82
    go_wp2_with fail
    refine (HO.out _ B0.out).mono ?_
    rintro e w1 ⟨rfl, b1⟩
    have E1 := hide (E0.out.step b1)
    clear b1 E0 B0 u0 u1 u2 u3 u4 d0 d1
    have d0 := E1.out.doc.cell 0 rfl
    have d1 := E1.out.doc.cell 1 rfl
    have u0 := cell_below c0.out E1.out.bel
    have u1 := cell_below c1.out E1.out.bel
    have u2 := cell_below c2.out E1.out.bel
    have u3 := cell_below c3.out E1.out.bel
    have u4 := cell_below c4.out E1.out.bel
    have y0 := CT.out.below E1.out.bel 0 _ rfl
    have y1 := CT.out.below E1.out.bel 1 _ rfl
    have y2 := CT.out.below E1.out.bel 2 _ rfl
    have y3 := CT.out.below E1.out.bel 3 _ rfl
    have y4 := CT.out.below E1.out.bel 4 _ rfl
    have y5 := CT.out.below E1.out.bel 5 _ rfl
    have y6 := CT.out.below E1.out.bel 6 _ rfl
    have y7 := CT.out.below E1.out.bel 7 _ rfl
    have y8 := CT.out.below E1.out.bel 8 _ rfl
    have y9 := CT.out.below E1.out.bel 9 _ rfl
    rw [Nat.add_zero] at y0
    go_wp2_with fail
    generalize C[m].val = z0 at *
    generalize C[m].dirty = z1 at *
    generalize C[m].typed = z2 at *
    generalize C[m].chk = z3 at *
    generalize C[m].dchk = z4 at *
    generalize C[m].mixed = z5 at *
    generalize C[m].sel = z6 at *
    generalize C[m].dsel = z7 at *
    generalize C[m].custom = z8 at *
    generalize C[m].files.length = z9 at *
    clear CT
    go_region_held3 (fun w' => w'.cell? ⟨w.heap.size, 0, none⟩ = some (.slice (some ⟨b, o, none⟩) l.length c) ∧ w'.cell? ⟨w.heap.size, 1, none⟩ = some (.slice (some ⟨bc, oc, none⟩) C.length kc) ∧ w'.cell? ⟨bc, oc + m * 10, none⟩ = some (.string z0) ∧ w'.cell? ⟨bc, oc + m * 10 + 1, none⟩ = some (.bool z1) ∧ w'.cell? ⟨bc, oc + m * 10 + 2, none⟩ = some (.bool z2) ∧ w'.cell? ⟨bc, oc + m * 10 + 3, none⟩ = some (.bool z3) ∧ w'.cell? ⟨bc, oc + m * 10 + 4, none⟩ = some (.bool z4) ∧ w'.cell? ⟨bc, oc + m * 10 + 5, none⟩ = some (.bool z5) ∧ w'.cell? ⟨bc, oc + m * 10 + 6, none⟩ = some (.bool z6) ∧ w'.cell? ⟨bc, oc + m * 10 + 7, none⟩ = some (.bool z7) ∧ w'.cell? ⟨bc, oc + m * 10 + 8, none⟩ = some (.string z8) ∧ w'.cell? ⟨bc, oc + m * 10 + 9, none⟩ = some (.slice fp z9 fc) ∧ w'.cell? ⟨b, o + m * 5 + 2, none⟩ = some (.slice pva n5 cva)) (first | go_keep | exact ⟨cell_below d0 UR.out, cell_below d1 UR.out, cell_below y0 UR.out, cell_below y1 UR.out, cell_below y2 UR.out, cell_below y3 UR.out, cell_below y4 UR.out, cell_below y5 UR.out, cell_below y6 UR.out, cell_below y7 UR.out, cell_below y8 UR.out, cell_below y9 UR.out, cell_below u2 UR.out⟩)
      (first | (go_at_call 147; refine (HV2.out _ (belR E1.out.bel 1)).mono ?_; rintro e wv ⟨rfl, bv⟩; have UR : Hid (Below w1.heap.size w1 wv) := undrewV bv))
    go_wp2_with fail
    go_ret
    exact ⟨ret_str E.out.symm, chain E1.out.bel UR.out⟩
set_option maxHeartbeats 8000000 in
theorem vaValue_any (nv cv : Value) (l : List Nd) (C : List Ct) (id : Int) (w : World) (hD : DocV w nv cv l C) (hz : DocSz l) (hC : CsOK C) (hT : KTabs w) :
    Calls Tryz.prog 30 #[.agg #[nv, cv], .int .i64 id] w fun e w' => e = .returned (.string (valN l C id)) ∧ Below w.heap.size w w' := by
  have E0 := hide (OEnv.new w nv cv)
  have HRt := hide (fun W (hb : Below w.heap.size w W) => opRightG_any nv cv l C W (hD.below hb) hz)
  have HV := hide (fun (m : Nat) (hm : m < l.length) (hc : m < C.length) W (hb : Below w.heap.size w W) => vaValueOf_any nv cv l C m W (hD.below hb) hz hC (hT.below hb) hm hc)
  have EV : Hid (valN l C id = if rightD l C = true ∧ hasN l id = true then valE l C id else ⟨#[]⟩) := (rfl : _ = _)
  have hl := hz.len
  obtain ⟨p, c, rfl⟩ := nds_formW hD.nds
  obtain ⟨_, _, pc, kc, rfl, _⟩ := hD.cts
  clear hD hz hC hT
  have d0 := E0.out.doc.cell 0 rfl
  have d1 := E0.out.doc.cell 1 rfl
  have B0 := hide E0.out.bel
  by_cases h0 : 0 ≤ id
  · by_cases h1 : id < (l.length : Int)
    · obtain ⟨m, rfl⟩ : ∃ m : Nat, id = (m : Int) := ⟨id.toNat, by omega⟩
      have hm : m < l.length := by omega
      cases hr : rightD l C with
      | false =>
        rw [hr] at HRt
        have E : Hid (valN l C (m : Int) = ⟨#[]⟩) := by show _ = _; rw [EV.out, if_neg (fun t => by rw [hr] at t; cases t.1)]
        clear HV EV hr
        go_enter Tryz.func30, Tryz.ntmps30
        go_wp2_with fail
        refine (HRt.out _ B0.out).mono ?_
        rintro e w1 ⟨rfl, b1⟩
        go_wp2_with fail
        go_ret
        exact ⟨ret_str E.out.symm, chain B0.out b1⟩
      | true =>
        rw [hr] at HRt
        obtain ⟨hR, hL⟩ := rightD_is hr
        have E : Hid (valN l C (m : Int) = valE l C (m : Int)) := by
          show _ = _
          rw [EV.out, if_pos ⟨hr, by unfold hasN; rw [decide_eq_true ⟨h0, h1⟩, right_is.2 hR]; rfl⟩]
        have HJ := hide (HV.out m hm (by omega))
        clear HV EV hr hR hL
        generalize valN l C (m : Int) = RES at *
        generalize valE l C (m : Int) = z at *
        go_enter Tryz.func30, Tryz.ntmps30
        go_wp2_with fail
        refine (HRt.out _ B0.out).mono ?_
        rintro e w1 ⟨rfl, b1⟩
        have E1 := hide (E0.out.step b1)
        clear b1 B0 d0 d1 E0
        have d0 := E1.out.doc.cell 0 rfl
        have d1 := E1.out.doc.cell 1 rfl
        go_wp2_with fail
        refine (HJ.out _ E1.out.bel).mono ?_
        rintro e w2 ⟨rfl, b2⟩
        go_wp2_with fail
        go_ret
        exact ⟨ret_str E.out.symm, chain E1.out.bel b2⟩
    · have E : Hid (valN l C id = ⟨#[]⟩) := by show _ = _; rw [EV.out, if_neg]; intro t; have t := t.2; unfold hasN at t; rw [decide_eq_false (fun q => h1 q.2)] at t; cases t
      have d2 : decide (id < (l.length : Int)) = false := decide_eq_false h1
      clear HV HRt EV
      generalize valN l C id = RES at *
      go_enter Tryz.func30, Tryz.ntmps30
      go_wp2_with fail
      go_ret
      exact ⟨ret_str E.out.symm, B0.out⟩
  · have E : Hid (valN l C id = ⟨#[]⟩) := by show _ = _; rw [EV.out, if_neg]; intro t; have t := t.2; unfold hasN at t; rw [decide_eq_false (fun q => h0 q.1)] at t; cases t
    have d2 : decide (0 ≤ id) = false := decide_eq_false h0
    clear HV HRt EV
    generalize valN l C id = RES at *
    go_enter Tryz.func30, Tryz.ntmps30
    go_wp2_with fail
    go_ret
    exact ⟨ret_str E.out.symm, B0.out⟩

end Go.Proofs.YtnojgejcmaajmaaGreatDoor
