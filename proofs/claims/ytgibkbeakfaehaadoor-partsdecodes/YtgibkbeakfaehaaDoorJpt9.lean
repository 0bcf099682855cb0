/- strings.Clone. The program's quote, unquote and part of layer 20. The program's Clear and Choose of layer 20, and slices.ContainsFunc of entries. The program's Encode of layer 20. Stage 20's wakes and its laws PartsEncodes, PartsDecodes, PartsBack, walked. -/
import Derived.Test.YtgibkbeakfaehaaDoorJpt11
import Derived.Test.YtgibkbeakfaehaaDoorJpt12
import Derived.Shelf.Abstract

namespace Go.Proofs.YtgibkbeakfaehaaDoor
open Go.Shelf Go.RowKit
set_option maxRecDepth 100000
def cloren : Go.Shelf.Ren := ⟨fun | 316 => 52 | n => n, fun | 0 => 0 | 3 => 3 | 4 => 4 | 5 => 5 | 9 => 9 | 37 => 52 | 72 => 54 | 127 => 69 | n => n, fun  | n => n⟩
theorem laysM316 : Go.Proofs.LaysM.n316 Tryd.prog cloren := {
  mixed := by kernel_rfl
  f316 := Tryd.func52.trans (congrArg some (by kernel_rfl))
  t0 := Tryd.underlying0
  a0 := Tryd.isAgg0
  z0 := Tryd.sizeOf0
  v0 := Tryd.zeroValue0
  t3 := Tryd.underlying3
  a3 := Tryd.isAgg3
  z3 := Tryd.sizeOf3
  v3 := Tryd.zeroValue3
  t4 := Tryd.underlying4
  a4 := Tryd.isAgg4
  z4 := Tryd.sizeOf4
  v4 := Tryd.zeroValue4
  t9 := Tryd.underlying9
  a9 := Tryd.isAgg9
  z9 := Tryd.sizeOf9
  v9 := Tryd.zeroValue9
  t37 := Tryd.underlying52
  a37 := Tryd.isAgg52
  z37 := Tryd.sizeOf52
  v37 := Tryd.zeroValue52
  t127 := Tryd.underlying69
  a127 := Tryd.isAgg69
  z127 := Tryd.sizeOf69
  v127 := Tryd.zeroValue69
  t5 := Tryd.underlying5
  a5 := Tryd.isAgg5
  z5 := Tryd.sizeOf5
  v5 := Tryd.zeroValue5
  i0 := by kernel_rfl
  i3 := by kernel_rfl
  i4 := by kernel_rfl
  i5 := by kernel_rfl
  i9 := by kernel_rfl
  i37 := by kernel_rfl
  i127 := by kernel_rfl }
set_option maxHeartbeats 400000 in
theorem clone_any (s : ByteArray) (w : World) (hs : s.size ≤ 281474976710656) :
    Calls Tryd.prog 33 #[.string s] w fun e w' => e = .returned (.string s) ∧ Below w.heap.size w w' := by
  have hc := fun w => (Any.stringslite_Clone laysM316 s w (by omega) : Calls Tryd.prog 52 #[.string s] w fun e w' => e = .returned (.string s) ∧ Below w.heap.size w w')
  have HC := hide hc
  clear hc
  go_enter Tryd.func33, Tryd.ntmps33
  go_wp2_with fail
  refine (HC.out _).mono ?_
  rintro e w1 ⟨rfl, b1⟩
  go_wp2_with fail
  go_ret
  exact ⟨rfl, b1⟩
end Go.Proofs.YtgibkbeakfaehaaDoor

namespace Go.Proofs.YtgibkbeakfaehaaDoor
open Go.RowKit
set_option maxRecDepth 100000
theorem sgIx0 (a b c d e f : Value) (w : World) : (Instr.index 72 (.agg #[a, b, c, d, e, f]) (.int .i64 0)).run Tryd.prog w = .ok (.agg #[a, b]) w := by kernel_rfl
theorem sgIx1 (a b c d e f : Value) (w : World) : (Instr.index 72 (.agg #[a, b, c, d, e, f]) (.int .i64 1)).run Tryd.prog w = .ok (.agg #[c, d]) w := by kernel_rfl
theorem sgIx2 (a b c d e f : Value) (w : World) : (Instr.index 72 (.agg #[a, b, c, d, e, f]) (.int .i64 2)).run Tryd.prog w = .ok (.agg #[e, f]) w := by kernel_rfl
def qS : Nat → List UInt8 → List UInt8
  | 0, l => l
  | 1, l => repA [10] [37, 48, 65] l
  | 2, l => repA [13] [37, 48, 68] (repA [10] [37, 48, 65] l)
  | _, l => repA [34] [37, 50, 50] (repA [13] [37, 48, 68] (repA [10] [37, 48, 65] l))
theorem rep_len3 (c : UInt8) (a b d : UInt8) (l : List UInt8) : (repA [c] [a, b, d] l).length ≤ 3 * l.length := by
  rw [rep_map]
  induction l with
  | nil => simp
  | cons x l ih =>
    rw [List.flatMap_cons, List.length_append, List.length_cons]
    have : (if x = c then [a, b, d] else [x]).length ≤ 3 := by split <;> simp
    omega
theorem qS_len (k : Nat) (l : List UInt8) : (qS k l).length ≤ 27 * l.length := by
  have h1 := rep_len3 10 37 48 65 l
  have h2 := rep_len3 13 37 48 68 (repA [10] [37, 48, 65] l)
  have h3 := rep_len3 34 37 50 50 (repA [13] [37, 48, 68] (repA [10] [37, 48, 65] l))
  match k with
  | 0 => show l.length ≤ _; omega
  | 1 => show (repA [10] [37, 48, 65] l).length ≤ _; omega
  | 2 => show (repA [13] [37, 48, 68] (repA [10] [37, 48, 65] l)).length ≤ _; omega
  | _ + 3 => show (repA [34] [37, 50, 50] (repA [13] [37, 48, 68] (repA [10] [37, 48, 65] l))).length ≤ _; omega
set_option maxHeartbeats 8000000 in
theorem quote_any (s : ByteArray) (w : World) (hs : s.size ≤ 16000000) (hT : PtTabs w) :
    Calls Tryd.prog 37 #[.string s] w fun e w' => e = .returned (.string (txt (nameL (bL s)))) ∧ Below w.heap.size w w' := by
  have HP : Hid (Calls Tryd.prog 55 #[.string s] w fun r w' => r = .returned (.string (txt (prsL (bL s)))) ∧ Below w.heap.size w w') := pairs_any s w (by omega)
  have PZ : (prsL (bL s)).length ≤ 2 * s.size := by have := pairsS_size s; exact this
  have EQ : Hid (qS 3 (prsL (bL s)) = nameL (bL s)) := rep_name _
  have HT := hide hT
  generalize nameL (bL s) = RES at *
  generalize prsL (bL s) = p at *
  have pz : p.length ≤ 32000000 := by omega
  clear PZ
  go_enter Tryd.func37, Tryd.ntmps37
  go_wp2_with fail
  refine HP.out.mono ?_
  rintro e w1 ⟨rfl, b1⟩
  have B1 := hide b1
  have T1 := hT.below b1
  have c0 := T1.sg.c0
  have c1 := T1.sg.c1
  have c2 := T1.sg.c2
  have c3 := T1.sg.c3
  have c4 := T1.sg.c4
  have c5 := T1.sg.c5
  clear T1 b1 HP hT hs
  go_wp2_with fail
  go_loopw [0, 8] (fun sv iv wr => ∃ k : Nat, k ≤ 3 ∧ iv = .int .i64 k ∧ sv = .string (txt (qS k p)) ∧ Hid (Below w.heap.size w wr)) (fun _ iv _ => 3 - (intOf iv).toNat)
  case atStart => exact ⟨0, by omega, rfl, rfl, B1⟩
  case round =>
    rename World => wr
    obtain ⟨k, hk, rfl, rfl, BW⟩ := hrel
    clear B1 c0 c1 c2 c3 c4 c5
    rcases (by omega : k = 0 ∨ k = 1 ∨ k = 2 ∨ k = 3) with rfl | rfl | rfl | rfl
    · have HR := hide (fun W (hb : Below w.heap.size w W) => replaceP_any (qS 0 p) [10] [37, 48, 65] W (by have := qS_len 0 p; omega) (HT.out.mx.below hb) (by decide) (by decide) (by decide))
      have EN : Hid (repA [10] [37, 48, 65] (qS 0 p) = qS 1 p) := rfl
      rw [EN.out] at HR
      have AL : Below wr.heap.size wr (wr.alloc (.cells #[.string ⟨#[10]⟩, .string ⟨#[37, 48, 65]⟩] 71)) := (Below.refl _ wr).alloc (Nat.le_refl _) _
      have B2 := hide (chain BW.out AL)
      clear AL EN
      have ix := fun w => sgIx0 (.string ⟨#[10]⟩) (.string ⟨#[37, 48, 65]⟩) (.string ⟨#[13]⟩) (.string ⟨#[37, 48, 68]⟩) (.string ⟨#[34]⟩) (.string ⟨#[37, 50, 50]⟩) w
      obtain ⟨p1, hp1⟩ : ∃ p1, p1 = qS 1 p := ⟨_, rfl⟩
      rw [← hp1] at HR
      have HP1 := hide hp1
      clear hp1
      generalize hp0 : qS 0 p = p0 at HR ⊢
      clear hp0
      go_wp2_with fail
      refine (HR.out _ B2.out).mono ?_
      rintro e w3 ⟨rfl, b3⟩
      have B3 := hide (chain B2.out b3)
      clear b3 HR B2 BW
      go_wp2_with fail
      go_roundw
      case rel => exact ⟨1, by omega, rfl, by rw [HP1.out], B3⟩
      case measure => decide
    · have HR := hide (fun W (hb : Below w.heap.size w W) => replaceP_any (qS 1 p) [13] [37, 48, 68] W (by have := qS_len 1 p; omega) (HT.out.mx.below hb) (by decide) (by decide) (by decide))
      have EN : Hid (repA [13] [37, 48, 68] (qS 1 p) = qS 2 p) := rfl
      rw [EN.out] at HR
      have AL : Below wr.heap.size wr (wr.alloc (.cells #[.string ⟨#[13]⟩, .string ⟨#[37, 48, 68]⟩] 71)) := (Below.refl _ wr).alloc (Nat.le_refl _) _
      have B2 := hide (chain BW.out AL)
      clear AL EN
      have ix := fun w => sgIx1 (.string ⟨#[10]⟩) (.string ⟨#[37, 48, 65]⟩) (.string ⟨#[13]⟩) (.string ⟨#[37, 48, 68]⟩) (.string ⟨#[34]⟩) (.string ⟨#[37, 50, 50]⟩) w
      obtain ⟨p1, hp1⟩ : ∃ p1, p1 = qS 2 p := ⟨_, rfl⟩
      rw [← hp1] at HR
      have HP1 := hide hp1
      clear hp1
      generalize hp0 : qS 1 p = p0 at HR ⊢
      clear hp0
      go_wp2_with fail
      refine (HR.out _ B2.out).mono ?_
      rintro e w3 ⟨rfl, b3⟩
      have B3 := hide (chain B2.out b3)
      clear b3 HR B2 BW
      go_wp2_with fail
      go_roundw
      case rel => exact ⟨2, by omega, rfl, by rw [HP1.out], B3⟩
      case measure => decide
    · have HR := hide (fun W (hb : Below w.heap.size w W) => replaceP_any (qS 2 p) [34] [37, 50, 50] W (by have := qS_len 2 p; omega) (HT.out.mx.below hb) (by decide) (by decide) (by decide))
      have EN : Hid (repA [34] [37, 50, 50] (qS 2 p) = qS 3 p) := rfl
      rw [EN.out] at HR
      have AL : Below wr.heap.size wr (wr.alloc (.cells #[.string ⟨#[34]⟩, .string ⟨#[37, 50, 50]⟩] 71)) := (Below.refl _ wr).alloc (Nat.le_refl _) _
      have B2 := hide (chain BW.out AL)
      clear AL EN
      have ix := fun w => sgIx2 (.string ⟨#[10]⟩) (.string ⟨#[37, 48, 65]⟩) (.string ⟨#[13]⟩) (.string ⟨#[37, 48, 68]⟩) (.string ⟨#[34]⟩) (.string ⟨#[37, 50, 50]⟩) w
      obtain ⟨p1, hp1⟩ : ∃ p1, p1 = qS 3 p := ⟨_, rfl⟩
      rw [← hp1] at HR
      have HP1 := hide hp1
      clear hp1
      generalize hp0 : qS 2 p = p0 at HR ⊢
      clear hp0
      go_wp2_with fail
      refine (HR.out _ B2.out).mono ?_
      rintro e w3 ⟨rfl, b3⟩
      have B3 := hide (chain B2.out b3)
      clear b3 HR B2 BW
      go_wp2_with fail
      go_roundw
      case rel => exact ⟨3, by omega, rfl, by rw [HP1.out], B3⟩
      case measure => decide
    · rw [EQ.out]
      clear EQ HT
      go_wp2_with fail
      go_ret
      exact ⟨rfl, BW.out⟩
set_option maxHeartbeats 8000000 in
theorem part_any (e0 : En) (w : World) (hz : EnZ 1000000 e0) (hT : PtTabs w) :
    Calls Tryd.prog 29 #[.agg #[.string e0.name, .string e0.val, .bool e0.file, .string e0.fname, .string e0.typ]] w fun e w' => e = .returned (.string (txt (partL e0))) ∧ Below w.heap.size w w' := by
  obtain ⟨z0, z1, z2, z3⟩ := hz
  have H0 := hide (fun W (hb : Below w.heap.size w W) => quote_any e0.name W (by omega) (hT.below hb))
  have H1 := hide (fun W (hb : Below w.heap.size w W) => quote_any e0.fname W (by omega) (hT.below hb))
  have H2 := hide (fun W => toldType_any e0.typ W (by omega))
  have H3 := hide (fun W => carried_any e0 W (by omega))
  have s0 := name_size (s := e0.name)
  have s1 := name_size (s := e0.fname)
  have s2 := type_size (s := e0.typ)
  have s3 : (txt (valP e0)).size ≤ 2000000 := by
    have := pairsS_size e0.val
    cases h : e0.file with
    | true => rw [val_file h]; omega
    | false => rw [val_text h]; omega
  have E : Hid (txt (partL e0) = txt (c1L ++ bL (txt (nameL (bL e0.name))) ++ [34] ++ (if e0.file = true then c2L ++ bL (txt (nameL (bL e0.fname))) ++ [34] ++ c3L ++ bL (txt (typeL (bL e0.typ))) else []) ++ c4L ++ bL (txt (valP e0)))) := rfl
  have K := hide (Bk.new w [.string e0.name, .string e0.val, .bool e0.file, .string e0.fname, .string e0.typ] 44)
  have B0 : Hid (Below w.heap.size w (w.alloc (.cells #[.string e0.name, .string e0.val, .bool e0.file, .string e0.fname, .string e0.typ] 44))) := (Below.refl _ w).alloc (Nat.le_refl _) _
  generalize txt (partL e0) = RES at *
  generalize txt (nameL (bL e0.name)) = n0 at *
  generalize txt (nameL (bL e0.fname)) = n1 at *
  generalize txt (typeL (bL e0.typ)) = n2 at *
  generalize txt (valP e0) = n3 at *
  generalize e0.name = t0 at *
  generalize e0.val = t1 at *
  generalize e0.fname = t2 at *
  generalize e0.typ = t3 at *
  have f0 : n0.size ≤ 6000000 := by omega
  have f1 : n1.size ≤ 6000000 := by omega
  have f2 : n2.size ≤ 2000000 := by omega
  clear s0 s1 s2 hT
  generalize e0.file = fb at *
  have S0 : (⟨#[67, 111, 110, 116, 101, 110, 116, 45, 68, 105, 115, 112, 111, 115, 105, 116, 105, 111, 110, 58, 32, 102, 111, 114, 109, 45, 100, 97, 116, 97, 59, 32, 110, 97, 109, 101, 61, 34]⟩ : ByteArray).size ≤ 38 := by decide
  have S1 : ((⟨#[67, 111, 110, 116, 101, 110, 116, 45, 68, 105, 115, 112, 111, 115, 105, 116, 105, 111, 110, 58, 32, 102, 111, 114, 109, 45, 100, 97, 116, 97, 59, 32, 110, 97, 109, 101, 61, 34]⟩ : ByteArray) ++ n0).size ≤ 6000038 := app_le S0 f0
  have S2 : ((⟨#[67, 111, 110, 116, 101, 110, 116, 45, 68, 105, 115, 112, 111, 115, 105, 116, 105, 111, 110, 58, 32, 102, 111, 114, 109, 45, 100, 97, 116, 97, 59, 32, 110, 97, 109, 101, 61, 34]⟩ : ByteArray) ++ n0 ++ (⟨#[34]⟩ : ByteArray)).size ≤ 6000039 := app_le S1 (show (⟨#[34]⟩ : ByteArray).size ≤ 1 by decide)
  have NZ : (⟨#[13, 10]⟩ : ByteArray).size ≤ 2 := by decide
  cases fb with
  | true =>
    rw [if_pos rfl] at E
    have E2 : Hid ((⟨#[67, 111, 110, 116, 101, 110, 116, 45, 68, 105, 115, 112, 111, 115, 105, 116, 105, 111, 110, 58, 32, 102, 111, 114, 109, 45, 100, 97, 116, 97, 59, 32, 110, 97, 109, 101, 61, 34]⟩ : ByteArray) ++ n0 ++ ⟨#[34]⟩ ++ (⟨#[59, 32, 102, 105, 108, 101, 110, 97, 109, 101, 61, 34]⟩ ++ n1 ++ ⟨#[34]⟩ ++ ⟨#[13, 10, 67, 111, 110, 116, 101, 110, 116, 45, 84, 121, 112, 101, 58, 32]⟩ ++ n2) ++ ⟨#[13, 10]⟩ ++ ⟨#[13, 10]⟩ ++ n3 = RES) := by
      show _ = _
      rw [E.out, ← txt_bL ((⟨#[67, 111, 110, 116, 101, 110, 116, 45, 68, 105, 115, 112, 111, 115, 105, 116, 105, 111, 110, 58, 32, 102, 111, 114, 109, 45, 100, 97, 116, 97, 59, 32, 110, 97, 109, 101, 61, 34]⟩ : ByteArray) ++ n0 ++ ⟨#[34]⟩ ++ (⟨#[59, 32, 102, 105, 108, 101, 110, 97, 109, 101, 61, 34]⟩ ++ n1 ++ ⟨#[34]⟩ ++ ⟨#[13, 10, 67, 111, 110, 116, 101, 110, 116, 45, 84, 121, 112, 101, 58, 32]⟩ ++ n2) ++ ⟨#[13, 10]⟩ ++ ⟨#[13, 10]⟩ ++ n3)]
      simp only [bL_app, List.append_assoc]
      rfl
    clear E
    have U0 : (⟨#[59, 32, 102, 105, 108, 101, 110, 97, 109, 101, 61, 34]⟩ : ByteArray).size ≤ 12 := by decide
    have U1 : ((⟨#[59, 32, 102, 105, 108, 101, 110, 97, 109, 101, 61, 34]⟩ : ByteArray) ++ n1).size ≤ 6000012 := app_le U0 f1
    have U2 : ((⟨#[59, 32, 102, 105, 108, 101, 110, 97, 109, 101, 61, 34]⟩ : ByteArray) ++ n1 ++ (⟨#[34]⟩ : ByteArray)).size ≤ 6000013 := app_le U1 (show (⟨#[34]⟩ : ByteArray).size ≤ 1 by decide)
    have U3 : ((⟨#[59, 32, 102, 105, 108, 101, 110, 97, 109, 101, 61, 34]⟩ : ByteArray) ++ n1 ++ (⟨#[34]⟩ : ByteArray) ++ (⟨#[13, 10, 67, 111, 110, 116, 101, 110, 116, 45, 84, 121, 112, 101, 58, 32]⟩ : ByteArray)).size ≤ 6000029 := app_le U2 (show (⟨#[13, 10, 67, 111, 110, 116, 101, 110, 116, 45, 84, 121, 112, 101, 58, 32]⟩ : ByteArray).size ≤ 16 by decide)
    have U4 : ((⟨#[59, 32, 102, 105, 108, 101, 110, 97, 109, 101, 61, 34]⟩ : ByteArray) ++ n1 ++ (⟨#[34]⟩ : ByteArray) ++ (⟨#[13, 10, 67, 111, 110, 116, 101, 110, 116, 45, 84, 121, 112, 101, 58, 32]⟩ : ByteArray) ++ n2).size ≤ 8000029 := app_le U3 f2
    have S3 := app_le S2 U4
    have S4 := app_le S3 NZ
    have S5 := app_le S4 NZ
    go_enter Tryd.func29, Tryd.ntmps29
    go_wp2_with fail
    refine (H0.out _ B0.out).mono ?_
    rintro e w1 ⟨rfl, b1⟩
    have K1 := hide (K.out.below b1)
    have B1 := hide (chain B0.out b1)
    have x2 := K1.out.cell 2 rfl
    have DR : Below w1.heap.size w1 w1.drew := ⟨rfl, rfl, rfl, Nat.le_refl _, fun _ _ => rfl⟩
    have BD := hide (chain B1.out DR)
    have KD := hide (K1.out.below DR)
    have x3 := K1.out.cell 3 rfl
    have x4 := K1.out.cell 4 rfl
    clear b1 B0 K H0 DR B1
    go_wp2_with fail
    generalize (⟨#[67, 111, 110, 116, 101, 110, 116, 45, 68, 105, 115, 112, 111, 115, 105, 116, 105, 111, 110, 58, 32, 102, 111, 114, 109, 45, 100, 97, 116, 97, 59, 32, 110, 97, 109, 101, 61, 34]⟩ : ByteArray) ++ n0 ++ ⟨#[34]⟩ = g0 at *
    have p1 := fun w => run_string_add_sum (P := Tryd.prog) w (⟨#[59, 32, 102, 105, 108, 101, 110, 97, 109, 101, 61, 34]⟩ : ByteArray) n1 (sum_le' U0 f1 (by decide))
    have p2 := fun w => run_string_add_sum (P := Tryd.prog) w ((⟨#[59, 32, 102, 105, 108, 101, 110, 97, 109, 101, 61, 34]⟩ : ByteArray) ++ n1) (⟨#[34]⟩ : ByteArray) (sum_le' U1 (show (⟨#[34]⟩ : ByteArray).size ≤ 1 by decide) (by decide))
    have p3 := fun w => run_string_add_sum (P := Tryd.prog) w ((⟨#[59, 32, 102, 105, 108, 101, 110, 97, 109, 101, 61, 34]⟩ : ByteArray) ++ n1 ++ (⟨#[34]⟩ : ByteArray)) (⟨#[13, 10, 67, 111, 110, 116, 101, 110, 116, 45, 84, 121, 112, 101, 58, 32]⟩ : ByteArray) (sum_le' U2 (show (⟨#[13, 10, 67, 111, 110, 116, 101, 110, 116, 45, 84, 121, 112, 101, 58, 32]⟩ : ByteArray).size ≤ 16 by decide) (by decide))
    have p4 := fun w => run_string_add_sum (P := Tryd.prog) w ((⟨#[59, 32, 102, 105, 108, 101, 110, 97, 109, 101, 61, 34]⟩ : ByteArray) ++ n1 ++ (⟨#[34]⟩ : ByteArray) ++ (⟨#[13, 10, 67, 111, 110, 116, 101, 110, 116, 45, 84, 121, 112, 101, 58, 32]⟩ : ByteArray)) n2 (sum_le' U3 f2 (by decide))
    have p5 := fun w => run_string_add_sum (P := Tryd.prog) w g0 ((⟨#[59, 32, 102, 105, 108, 101, 110, 97, 109, 101, 61, 34]⟩ : ByteArray) ++ n1 ++ (⟨#[34]⟩ : ByteArray) ++ (⟨#[13, 10, 67, 111, 110, 116, 101, 110, 116, 45, 84, 121, 112, 101, 58, 32]⟩ : ByteArray) ++ n2) (sum_le' S2 U4 (by decide))
    refine wp_region_held_drew (S := fun X : World => X.cell? ⟨w.heap.size, 3, none⟩ = some (.string t2) ∧ X.cell? ⟨w.heap.size, 4, none⟩ = some (.string t3)) (by kernel_rfl) ?_ (fun hHeld => ?_)
    · exact ⟨x3, x4⟩
    refine wpAnyH_take (i := 0) (oi := { dst := some 11, op := Op.move (Operand.tmp 3), type := 9, pos := "parts.go:120", after := #[], guard := none }) (v := ?_) rfl (by kernel_rfl) (by kernel_rfl) (by kernel_rfl) (fun _ _ _ h => h) (Or.inl ⟨by rfl, ?_⟩) (by assumption) ?_
    rotate_left
    · (intro w hSw; (try dsimp only at hSw); first | (go_simp; done) | (go_simp; with_reducible rfl))
    simp only [Act.put, List.setIfInBounds_toArray, List.set_cons_zero, List.set_cons_succ]
    refine wpAnyH_take (i := 1) (oi := { dst := some 12, op := Op.fieldAddr 44 (Operand.tmp 1) 3, type := 0, pos := "parts.go:120", after := #[], guard := none }) (v := ?_) rfl (by kernel_rfl) (by kernel_rfl) (by kernel_rfl) (fun _ _ _ h => h) (Or.inl ⟨by rfl, ?_⟩) (by assumption) ?_
    rotate_left
    · (intro w hSw; (try dsimp only at hSw); first | (go_simp; done) | (go_simp; with_reducible rfl))
    simp only [Act.put, List.setIfInBounds_toArray, List.set_cons_zero, List.set_cons_succ]
    refine wpAnyH_take (i := 2) (oi := { dst := some 13, op := Op.load 9 (Operand.tmp 12), type := 9, pos := "parts.go:120", after := #[{ on := 1, ground := Ground.data }], guard := none }) (v := ?_) rfl (by kernel_rfl) (by kernel_rfl) (by kernel_rfl) (fun _ _ _ h => h) (Or.inl ⟨by rfl, ?_⟩) (by assumption) ?_
    rotate_left
    · (intro w hSw; (try dsimp only at hSw); first | (go_simp; done) | (go_simp; with_reducible rfl))
    simp only [Act.put, List.setIfInBounds_toArray, List.set_cons_zero, List.set_cons_succ]
    refine wpAnyH_take (i := 7) (oi := { dst := some 18, op := Op.fieldAddr 44 (Operand.tmp 1) 4, type := 0, pos := "parts.go:120", after := #[], guard := none }) (v := ?_) rfl (by kernel_rfl) (by kernel_rfl) (by kernel_rfl) (fun _ _ _ h => h) (Or.inl ⟨by rfl, ?_⟩) (by assumption) ?_
    rotate_left
    · (intro w hSw; (try dsimp only at hSw); first | (go_simp; done) | (go_simp; with_reducible rfl))
    simp only [Act.put, List.setIfInBounds_toArray, List.set_cons_zero, List.set_cons_succ]
    refine wpAnyH_take (i := 8) (oi := { dst := some 19, op := Op.load 9 (Operand.tmp 18), type := 9, pos := "parts.go:120", after := #[{ on := 7, ground := Ground.data }], guard := none }) (v := ?_) rfl (by kernel_rfl) (by kernel_rfl) (by kernel_rfl) (fun _ _ _ h => h) (Or.inl ⟨by rfl, ?_⟩) (by assumption) ?_
    rotate_left
    · (intro w hSw; (try dsimp only at hSw); first | (go_simp; done) | (go_simp; with_reducible rfl))
    simp only [Act.put, List.setIfInBounds_toArray, List.set_cons_zero, List.set_cons_succ]
    refine wpAnyH_ready (rs := [3]) (by kernel_rfl) (by simp) ?_
    refine AllReadyH.cons (i := 3) (o := { dst := some 14, op := Op.call { callee := Callee.value (Operand.func 37), args := #[Operand.tmp 13], argTypes := #[9] }, type := 9, pos := "parts.go:120", after := #[{ on := 2, ground := Ground.data }], guard := none }) rfl (fun K hK => ?_) AllReadyH.nil
    go_simp
    refine (H1.out _ BD.out).mono ?_
    rintro e w2 ⟨rfl, b2⟩
    have K2 := hide (KD.out.below b2)
    have B2 := hide (chain BD.out b2)
    clear b2
    go_wp2_with fail
    refine hK.out _ _ ?_ (fun hHeld => ?_)
    · exact ⟨K2.out.cell 3 rfl, K2.out.cell 4 rfl⟩
    clear hK K
    refine wpAnyH_take (i := 4) (oi := { dst := some 15, op := Op.binOp BinOp.add 9 (Operand.const (Value.string { data := #[59, 32, 102, 105, 108, 101, 110, 97, 109, 101, 61, 34] })) (Operand.tmp 14) 9, type := 9, pos := "parts.go:120", after := #[{ on := 3, ground := Ground.data }], guard := none }) (v := ?_) rfl (by kernel_rfl) (by kernel_rfl) (by kernel_rfl) (fun _ _ _ h => h) (Or.inl ⟨by rfl, ?_⟩) (by assumption) ?_
    rotate_left
    · (intro w hSw; (try dsimp only at hSw); first | (go_simp; done) | (go_simp; with_reducible rfl))
    simp only [Act.put, List.setIfInBounds_toArray, List.set_cons_zero, List.set_cons_succ]
    refine wpAnyH_take (i := 5) (oi := { dst := some 16, op := Op.binOp BinOp.add 9 (Operand.tmp 15) (Operand.const (Value.string { data := #[34] })) 9, type := 9, pos := "parts.go:120", after := #[{ on := 4, ground := Ground.data }], guard := none }) (v := ?_) rfl (by kernel_rfl) (by kernel_rfl) (by kernel_rfl) (fun _ _ _ h => h) (Or.inl ⟨by rfl, ?_⟩) (by assumption) ?_
    rotate_left
    · (intro w hSw; (try dsimp only at hSw); first | (go_simp; done) | (go_simp; with_reducible rfl))
    simp only [Act.put, List.setIfInBounds_toArray, List.set_cons_zero, List.set_cons_succ]
    refine wpAnyH_take (i := 6) (oi := { dst := some 17, op := Op.binOp BinOp.add 9 (Operand.tmp 16) (Operand.const (Value.string { data := #[13, 10, 67, 111, 110, 116, 101, 110, 116, 45, 84, 121, 112, 101, 58, 32] })) 9, type := 9, pos := "parts.go:120", after := #[{ on := 5, ground := Ground.data }], guard := none }) (v := ?_) rfl (by kernel_rfl) (by kernel_rfl) (by kernel_rfl) (fun _ _ _ h => h) (Or.inl ⟨by rfl, ?_⟩) (by assumption) ?_
    rotate_left
    · (intro w hSw; (try dsimp only at hSw); first | (go_simp; done) | (go_simp; with_reducible rfl))
    simp only [Act.put, List.setIfInBounds_toArray, List.set_cons_zero, List.set_cons_succ]
    refine wpAnyH_ready (rs := [9]) (by kernel_rfl) (by simp) ?_
    refine AllReadyH.cons (i := 9) (o := { dst := some 20, op := Op.call { callee := Callee.value (Operand.func 39), args := #[Operand.tmp 19], argTypes := #[9] }, type := 9, pos := "parts.go:120", after := #[{ on := 8, ground := Ground.data }, { on := 3, ground := Ground.chain }], guard := none }) rfl (fun K hK => ?_) AllReadyH.nil
    go_simp
    refine (H2.out _).mono ?_
    rintro e w3 ⟨rfl, hu⟩
    obtain rfl : w2 = w3 := hu.symm
    go_wp2_with fail
    refine hK.out _ _ ?_ (fun hHeld => ?_)
    · exact ⟨K2.out.cell 3 rfl, K2.out.cell 4 rfl⟩
    clear hK K
    refine wpAnyH_take (i := 10) (oi := { dst := some 21, op := Op.binOp BinOp.add 9 (Operand.tmp 17) (Operand.tmp 20) 9, type := 9, pos := "parts.go:120", after := #[{ on := 6, ground := Ground.data }, { on := 9, ground := Ground.data }], guard := none }) (v := ?_) rfl (by kernel_rfl) (by kernel_rfl) (by kernel_rfl) (fun _ _ _ h => h) (Or.inl ⟨by rfl, ?_⟩) (by assumption) ?_
    rotate_left
    · (intro w hSw; (try dsimp only at hSw); first | (go_simp; done) | (go_simp; with_reducible rfl))
    simp only [Act.put, List.setIfInBounds_toArray, List.set_cons_zero, List.set_cons_succ]
    refine wpAnyH_take (i := 11) (oi := { dst := some 22, op := Op.binOp BinOp.add 9 (Operand.tmp 11) (Operand.tmp 21) 9, type := 9, pos := "parts.go:120", after := #[{ on := 0, ground := Ground.data }, { on := 10, ground := Ground.data }], guard := none }) (v := ?_) rfl (by kernel_rfl) (by kernel_rfl) (by kernel_rfl) (fun _ _ _ h => h) (Or.inl ⟨by rfl, ?_⟩) (by assumption) ?_
    rotate_left
    · (intro w hSw; (try dsimp only at hSw); first | (go_simp; done) | (go_simp; with_reducible rfl))
    simp only [Act.put, List.setIfInBounds_toArray, List.set_cons_zero, List.set_cons_succ]
    refine wpAnyH_take (i := 12) (oi := { dst := some 3, op := Op.assign (Operand.tmp 22), type := 9, pos := "parts.go:120", after := #[{ on := 11, ground := Ground.data }, { on := 9, ground := Ground.chain }, { on := 0, ground := Ground.phase }, { on := 1, ground := Ground.phase }, { on := 2, ground := Ground.phase }, { on := 3, ground := Ground.phase }, { on := 4, ground := Ground.phase }, { on := 5, ground := Ground.phase }, { on := 6, ground := Ground.phase }, { on := 7, ground := Ground.phase }, { on := 8, ground := Ground.phase }, { on := 9, ground := Ground.phase }, { on := 10, ground := Ground.phase }, { on := 11, ground := Ground.phase }], guard := none }) (v := ?_) rfl (by kernel_rfl) (by kernel_rfl) (by kernel_rfl) (fun _ _ _ h => h) (Or.inl ⟨by rfl, ?_⟩) (by assumption) ?_
    rotate_left
    · (intro w hSw; (try dsimp only at hSw); first | (go_simp; done) | (go_simp; with_reducible rfl))
    simp only [Act.put, List.setIfInBounds_toArray, List.set_cons_zero, List.set_cons_succ]
    refine wpAnyH_done (by kernel_rfl) ?_ _
    have y0 := K2.out.cell 0 rfl
    have y1 := K2.out.cell 1 rfl
    have y2 := K2.out.cell 2 rfl
    have y3 := K2.out.cell 3 rfl
    have y4 := K2.out.cell 4 rfl
    go_wp2_with fail
    refine (H3.out _).mono ?_
    rintro e w4 ⟨rfl, b4⟩
    have B4 := hide (chain B2.out b4)
    go_wp2_with fail
    go_ret
    exact ⟨ret_txt E2.out, B4.out⟩
  | false =>
    rw [if_neg (by decide), List.append_nil] at E
    have E2 : Hid ((⟨#[67, 111, 110, 116, 101, 110, 116, 45, 68, 105, 115, 112, 111, 115, 105, 116, 105, 111, 110, 58, 32, 102, 111, 114, 109, 45, 100, 97, 116, 97, 59, 32, 110, 97, 109, 101, 61, 34]⟩ : ByteArray) ++ n0 ++ ⟨#[34]⟩ ++ ⟨#[13, 10]⟩ ++ ⟨#[13, 10]⟩ ++ n3 = RES) := by
      show _ = _
      rw [E.out, ← txt_bL ((⟨#[67, 111, 110, 116, 101, 110, 116, 45, 68, 105, 115, 112, 111, 115, 105, 116, 105, 111, 110, 58, 32, 102, 111, 114, 109, 45, 100, 97, 116, 97, 59, 32, 110, 97, 109, 101, 61, 34]⟩ : ByteArray) ++ n0 ++ ⟨#[34]⟩ ++ ⟨#[13, 10]⟩ ++ ⟨#[13, 10]⟩ ++ n3)]
      simp only [bL_app, List.append_assoc]
      rfl
    clear E H1 H2
    have S4 := app_le S2 NZ
    have S5 := app_le S4 NZ
    have S6 := app_le S5 s3
    go_enter Tryd.func29, Tryd.ntmps29
    go_wp2_with fail
    refine (H0.out _ B0.out).mono ?_
    rintro e w1 ⟨rfl, b1⟩
    have K1 := hide (K.out.below b1)
    have B1 := hide (chain B0.out b1)
    have x0 := K1.out.cell 0 rfl
    have x1 := K1.out.cell 1 rfl
    have x2 := K1.out.cell 2 rfl
    have x3 := K1.out.cell 3 rfl
    have x4 := K1.out.cell 4 rfl
    clear b1 B0 K H0
    go_wp2_with fail
    refine (H3.out _).mono ?_
    rintro e w2 ⟨rfl, b2⟩
    have B2 := hide (chain B1.out b2)
    go_wp2_with fail
    go_ret
    exact ⟨ret_txt E2.out, B2.out⟩
end Go.Proofs.YtgibkbeakfaehaaDoor

namespace Go.Proofs.YtgibkbeakfaehaaDoor
open Go.RowKit
set_option maxRecDepth 100000
/-- A function value that answers p of the entries of a list, in every later world. -/
def PredE (g : Nat) (lb : Array Value) (p : En → Bool) (l : List En) (w : World) : Prop :=
  ∀ (W : World) (x : En), x ∈ l → Below w.heap.size w W → Calls Tryd.prog g (#[.agg #[.string x.name, .string x.val, .bool x.file, .string x.fname, .string x.typ]] ++ lb) W fun e w' => e = .returned (.bool (p x)) ∧ Below W.heap.size W w'
theorem idxE_hit {ax : List En} {p : En → Bool} {k : Nat} (h : k < ax.length) (hp : p ax[k] = true) (hd : ∀ j (hj : j < ax.length), j < k → p ax[j] = false) : ax.findIdx? p = some k := by
  rw [List.findIdx?_eq_some_iff_getElem]
  exact ⟨h, hp, fun j hj => by rw [hd j (by omega) hj]; decide⟩
theorem idxE_miss {ax : List En} {p : En → Bool} (hd : ∀ j (hj : j < ax.length), p ax[j] = false) : ax.findIdx? p = none := by
  rw [List.findIdx?_eq_none_iff]
  intro x hx
  obtain ⟨j, hj, rfl⟩ := List.getElem_of_mem hx
  exact hd j hj
theorem findE_nonneg (o : Option Nat) : decide (0 ≤ findV o) = o.isSome := by
  cases o with
  | none => rfl
  | some k => exact decide_eq_true (by show (0 : Int) ≤ (k : Int); omega)
theorem idx_any {l : List En} {p : En → Bool} : (l.findIdx? p).isSome = l.any p := by
  rw [Bool.eq_iff_iff, List.findIdx?_isSome, List.any_eq_true]
set_option maxHeartbeats 8000000 in
theorem indexFuncE_any (v : Value) (ax : List En) (p : En → Bool) (g : Nat) (lb : Array Value) (eg : ∀ args w, (callFunc g args).run Tryd.prog w = .ok (.enter g args) w) (w : World) (hv : FilesV w v ax) (hp : PredE g lb p ax w) (hl : ax.length ≤ 4398046511104) :
    Calls Tryd.prog 51 #[v, .func (.func g) #[] lb] w fun e w' => e = .returned (.int .i64 (findV (ax.findIdx? p))) ∧ Below w.heap.size w w' := by
  have FV := hide hv
  obtain ⟨pp, c, rfl⟩ := files_formP hv
  have HIT := hide (fun k h h1 h2 => idxE_hit (ax := ax) (p := p) (k := k) h h1 h2)
  have MISS := hide (fun h => idxE_miss (ax := ax) (p := p) h)
  generalize ax.findIdx? p = R at *
  have HP := hide hp
  clear hp hv
  go_enter Tryd.func51, Tryd.ntmps51
  go_wp2_with fail
  go_loopw [8] (fun iv wr => ∃ k : Nat, k ≤ ax.length ∧ iv = .int .i64 k ∧ Hid (∀ j (hj : j < ax.length), j < k → p ax[j] = false) ∧ Hid (Below w.heap.size w wr)) (fun iv _ => ax.length - (intOf iv).toNat)
  case atStart => exact ⟨0, Nat.zero_le _, rfl, fun j _ q => by omega, Below.refl _ _⟩
  case round =>
    rename World => wr
    obtain ⟨k, hk, rfl, hd, BW⟩ := hrel
    by_cases h : k < ax.length
    · have i1 : (k : Int) < (ax.length : Int) := by omega
      have i0 : (0 : Int) ≤ (k : Int) := by omega
      obtain ⟨b, o, rfl, EA⟩ := en_of (FV.out.below BW.out) h
      have c0 := EA.c0
      have c1 := EA.c1
      have c2 := EA.c2
      have c3 := EA.c3
      have c4 := EA.c4
      have HC := hide (HP.out wr ax[k] (List.getElem_mem h) BW.out)
      have HK := hide (HIT.out k h)
      have ND := hide (fun q : p ax[k] = false => (fun j (hj : j < ax.length) (r : j < k + 1) => by
        rcases Nat.lt_or_ge j k with t | t
        · exact hd.out j hj t
        · obtain rfl : j = k := by omega
          exact q : ∀ j (hj : j < ax.length), j < k + 1 → p ax[j] = false))
      clear HP HIT MISS FV EA
      cases q : p ax[k] with
      | true =>
        have E := hide (HK.out q (fun j hj r => hd.out j hj r))
        rw [q] at HC
        clear HK ND q hd
        generalize ax[k].name = x1 at *
        generalize ax[k].val = x2 at *
        generalize ax[k].file = x3 at *
        generalize ax[k].fname = x4 at *
        generalize ax[k].typ = x5 at *
        go_wp2_with fail
        refine HC.out.mono ?_
        rintro e w' ⟨rfl, hb'⟩
        go_wp2_with fail
        go_ret
        exact ⟨by rw [E.out]; rfl, chain BW.out hb'⟩
      | false =>
        have E := hide (ND.out q)
        rw [q] at HC
        clear HK ND q hd
        generalize ax[k].name = x1 at *
        generalize ax[k].val = x2 at *
        generalize ax[k].file = x3 at *
        generalize ax[k].fname = x4 at *
        generalize ax[k].typ = x5 at *
        go_wp2_with fail
        refine HC.out.mono ?_
        rintro e w' ⟨rfl, hb'⟩
        go_wp2_with fail
        go_roundw
        case rel => exact ⟨k + 1, by omega, by go_num, E, chain BW.out hb'⟩
        case measure => simp [intOf]; omega
    · obtain rfl : k = ax.length := by omega
      have E := hide (MISS.out (fun j hj => hd.out j hj hj))
      clear HIT MISS hd FV HP h
      go_wp2_with fail
      go_ret
      exact ⟨by rw [E.out]; rfl, BW.out⟩
set_option maxHeartbeats 8000000 in
theorem containsFuncE_any (v : Value) (ax : List En) (p : En → Bool) (g : Nat) (lb : Array Value) (eg : ∀ args w, (callFunc g args).run Tryd.prog w = .ok (.enter g args) w) (w : World) (hv : FilesV w v ax) (hp : PredE g lb p ax w) (hl : ax.length ≤ 4398046511104) :
    Calls Tryd.prog 30 #[v, .func (.func g) #[] lb] w fun e w' => e = .returned (.bool (ax.any p)) ∧ Below w.heap.size w w' := by
  have HI := hide (indexFuncE_any v ax p g lb eg w hv hp hl)
  have E := hide (findE_nonneg (ax.findIdx? p))
  rw [idx_any] at E
  generalize ax.any p = R at *
  generalize findV (ax.findIdx? p) = z at *
  clear hv hp
  go_enter Tryd.func30, Tryd.ntmps30
  go_wp2_with fail
  refine HI.out.mono ?_
  rintro e w1 ⟨rfl, b1⟩
  go_wp2_with fail
  go_ret
  exact ⟨ret_bool E.out, b1⟩
set_option maxHeartbeats 8000000 in
theorem clear1_any (b : ByteArray) (B : Nat) (e0 : En) (W : World) (hc : W.cell? ⟨B, 0, none⟩ = some (.string b)) (hz : EnZ 1000000 e0) (hb : 0 < b.size) (hT : PtTabs W) :
    Calls Tryd.prog 27 #[.agg #[.string e0.name, .string e0.val, .bool e0.file, .string e0.fname, .string e0.typ], .pointer (some ⟨B, 0, none⟩)] W fun e w' => e = .returned (.bool (cutL (bL b) (partL e0)).isSome) ∧ Below W.heap.size W w' := by
  have HP := hide (fun X (h : Below W.heap.size W X) => part_any e0 X hz (hT.below h))
  have ps := part_size hz
  have HC := hide (fun X (h : Below W.heap.size W X) => contains_any (txt (partL e0)) b X (by show (partL e0).length ≤ _; omega) hb (hT.below h).mx)
  have EC : Hid (bL (txt (partL e0)) = partL e0) := rfl
  rw [EC.out] at HC
  generalize (cutL (bL b) (partL e0)).isSome = R at *
  generalize txt (partL e0) = pt at *
  have K1 := hide (Bk.new W [.string e0.name, .string e0.val, .bool e0.file, .string e0.fname, .string e0.typ] 44).drewC
  have B1 : Hid (Below W.heap.size W (W.alloc (.cells #[.string e0.name, .string e0.val, .bool e0.file, .string e0.fname, .string e0.typ] 44)).drew) := belDC ((Below.refl _ W).alloc (Nat.le_refl _) _)
  have x1 := hide (cell_below hc B1.out)
  clear hz ps hc hT EC
  generalize e0.name = t0 at *
  generalize e0.val = t1 at *
  generalize e0.file = fb at *
  generalize e0.fname = t2 at *
  generalize e0.typ = t3 at *
  go_enter Tryd.func27, Tryd.ntmps27
  go_wp2_with fail
  refine wp_region_held_drew (S := fun X : World => (X.cell? ⟨W.heap.size, 0, none⟩ = some (.string t0) ∧ X.cell? ⟨W.heap.size, 1, none⟩ = some (.string t1) ∧ X.cell? ⟨W.heap.size, 2, none⟩ = some (.bool fb) ∧ X.cell? ⟨W.heap.size, 3, none⟩ = some (.string t2) ∧ X.cell? ⟨W.heap.size, 4, none⟩ = some (.string t3)) ∧ X.cell? ⟨B, 0, none⟩ = some (.string b)) (by kernel_rfl) ?_ (fun hHeld => ?_)
  · exact ⟨⟨K1.out.cell 0 rfl, K1.out.cell 1 rfl, K1.out.cell 2 rfl, K1.out.cell 3 rfl, K1.out.cell 4 rfl⟩, x1.out⟩
  refine wpAnyH_take (i := 0) (oi := { dst := some 4, op := Op.load 44 (Operand.tmp 2), type := 44, pos := "parts.go:44", after := #[], guard := none }) (v := ?_) rfl (by kernel_rfl) (by kernel_rfl) (by kernel_rfl) (fun _ _ _ h => h) (Or.inl ⟨by rfl, ?_⟩) (by assumption) ?_
  rotate_left
  · (intro w hSw; (try dsimp only at hSw); first | (go_simp; done) | (go_simp; with_reducible rfl))
  simp only [Act.put, List.setIfInBounds_toArray, List.set_cons_zero, List.set_cons_succ]
  refine wpAnyH_take (i := 2) (oi := { dst := some 6, op := Op.load 9 (Operand.tmp 1), type := 9, pos := "parts.go:44", after := #[], guard := none }) (v := ?_) rfl (by kernel_rfl) (by kernel_rfl) (by kernel_rfl) (fun _ _ _ h => h) (Or.inl ⟨by rfl, ?_⟩) (by assumption) ?_
  rotate_left
  · (intro w hSw; (try dsimp only at hSw); first | (go_simp; done) | (go_simp; with_reducible rfl))
  simp only [Act.put, List.setIfInBounds_toArray, List.set_cons_zero, List.set_cons_succ]
  refine wpAnyH_ready (rs := [1]) (by kernel_rfl) (by simp) ?_
  refine AllReadyH.cons (i := 1) (o := { dst := some 5, op := Op.call { callee := Callee.value (Operand.func 29), args := #[Operand.tmp 4], argTypes := #[44] }, type := 9, pos := "parts.go:44", after := #[{ on := 0, ground := Ground.data }], guard := none }) rfl (fun K hK => ?_) AllReadyH.nil
  go_simp
  refine (HP.out _ B1.out).mono ?_
  rintro e w2 ⟨rfl, b2⟩
  replace x1 := hide (cell_below x1.out b2)
  replace K1 := hide (K1.out.below b2)
  have B2 := hide (chain B1.out b2)
  clear b2
  go_wp2_with fail
  refine hK.out _ _ ?_ (fun hHeld => ?_)
  · exact ⟨⟨K1.out.cell 0 rfl, K1.out.cell 1 rfl, K1.out.cell 2 rfl, K1.out.cell 3 rfl, K1.out.cell 4 rfl⟩, x1.out⟩
  clear hK K
  refine wpAnyH_ready (rs := [3]) (by kernel_rfl) (by simp) ?_
  refine AllReadyH.cons (i := 3) (o := { dst := some 7, op := Op.call { callee := Callee.value (Operand.func 28), args := #[Operand.tmp 5, Operand.tmp 6], argTypes := #[9, 9] }, type := 4, pos := "parts.go:44", after := #[{ on := 1, ground := Ground.data }, { on := 2, ground := Ground.data }, { on := 1, ground := Ground.chain }], guard := none }) rfl (fun K hK => ?_) AllReadyH.nil
  go_simp
  refine (HC.out _ B2.out).mono ?_
  rintro e w3 ⟨rfl, hu⟩
  obtain rfl : w2 = w3 := hu.symm
  go_wp2_with fail
  refine hK.out _ _ ?_ (fun hHeld => ?_)
  · exact ⟨⟨K1.out.cell 0 rfl, K1.out.cell 1 rfl, K1.out.cell 2 rfl, K1.out.cell 3 rfl, K1.out.cell 4 rfl⟩, x1.out⟩
  clear hK K
  refine wpAnyH_take (i := 4) (oi := { dst := some 3, op := Op.assign (Operand.tmp 7), type := 4, pos := "parts.go:44", after := #[{ on := 3, ground := Ground.data }, { on := 3, ground := Ground.chain }, { on := 0, ground := Ground.phase }, { on := 1, ground := Ground.phase }, { on := 2, ground := Ground.phase }, { on := 3, ground := Ground.phase }], guard := none }) (v := ?_) rfl (by kernel_rfl) (by kernel_rfl) (by kernel_rfl) (fun _ _ _ h => h) (Or.inl ⟨by rfl, ?_⟩) (by assumption) ?_
  rotate_left
  · (intro w hSw; (try dsimp only at hSw); first | (go_simp; done) | (go_simp; with_reducible rfl))
  simp only [Act.put, List.setIfInBounds_toArray, List.set_cons_zero, List.set_cons_succ]
  refine wpAnyH_done (by kernel_rfl) ?_ _
  go_wp2_with fail
  go_ret
  exact ⟨rfl, B2.out⟩
theorem entersClear1 : ∀ args w, (callFunc 27 args).run Tryd.prog w = .ok (.enter 27 args) w := Go.Proofs.enters_of Tryd.func27 (by kernel_rfl) rfl
theorem clr_any (l : List En) (b : List UInt8) : clrL l b = (fitL b && !(l.any fun e => (cutL b (partL e)).isSome)) := by
  unfold clrL
  congr 1
  induction l with
  | nil => rfl
  | cons e l ih =>
    rw [List.all_cons, List.any_cons, ih]
    cases cutL b (partL e) <;> simp
set_option maxHeartbeats 8000000 in
theorem ptClear_any (n : Nat) (v : Value) (l : List En) (b : ByteArray) (w : World) (hv : FilesV w v l) (hn : n ≤ 1000000) (hl : EnsOK n l) (hb : b.size ≤ 1000) (hT : PtTabs w) :
    Calls Tryd.prog 12 #[v, .string b] w fun e w' => e = .returned (.bool (clrL l (bL b))) ∧ Below w.heap.size w w' := by
  have B0 : Hid (Below w.heap.size w (w.alloc (.cells #[.string b] 9))) := (Below.refl _ w).alloc (Nat.le_refl _) _
  have x0 : (w.alloc (.cells #[.string b] 9)).cell? ⟨w.heap.size, 0, none⟩ = some (.string b) := (Bk.new w [.string b] 9).cell 0 rfl
  have HF := hide (fun W => ptFitW_any b W (by omega))
  have HZ := hide (ens_z hl hn)
  have E := hide (clr_any l (bL b))
  have l200 := hl.len
  obtain ⟨p, c, rfl⟩ := files_formP hv
  cases ft : fitL (bL b) with
  | false =>
    rw [ft, Bool.false_and] at E
    rw [ft] at HF
    clear ft hv hl HZ hT
    go_enter Tryd.func12, Tryd.ntmps12
    go_wp2_with fail
    refine (HF.out _).mono ?_
    rintro e w1 ⟨rfl, hu⟩
    obtain rfl := hu.symm
    go_wp2_with fail
    go_ret
    exact ⟨ret_bool E.out.symm, B0.out⟩
  | true =>
    have hb0 : 0 < b.size := by have := (fit_pos ft).1; rw [len_bL] at this; exact this
    rw [ft, Bool.true_and] at E
    rw [ft] at HF
    have HC := hide (containsFuncE_any _ l (fun e => (cutL (bL b) (partL e)).isSome) 27 #[.pointer (some ⟨w.heap.size, 0, none⟩)] entersClear1 _ (hv.below B0.out) (fun W x hx hbW => clear1_any b w.heap.size x W (cell_below x0 hbW) (HZ.out x hx) hb0 ((hT.below B0.out).below hbW)) (by omega))
    clear ft hv hl HZ hT hb0
    generalize l.any (fun e => (cutL (bL b) (partL e)).isSome) = A at *
    generalize clrL l (bL b) = R at *
    go_enter Tryd.func12, Tryd.ntmps12
    go_wp2_with fail
    refine (HF.out _).mono ?_
    rintro e w1 ⟨rfl, hu⟩
    obtain rfl := hu.symm
    go_wp2_with fail
    refine HC.out.mono ?_
    rintro e w2 ⟨rfl, b2⟩
    have B2 := hide (chain B0.out b2)
    clear b2 HC B0
    go_wp2_with fail
    go_ret
    exact ⟨ret_bool E.out.symm, B2.out⟩
end Go.Proofs.YtgibkbeakfaehaaDoor

namespace Go.Proofs.YtgibkbeakfaehaaDoor
open Go.RowKit
set_option maxRecDepth 100000
set_option maxHeartbeats 8000000 in
theorem ptEncode_any (n : Nat) (v : Value) (l : List En) (b : ByteArray) (w : World) (hv : FilesV w v l) (hn : n ≤ 1000000) (hl : EnsOK n l) (hb : b.size ≤ 1000) (hT : PtTabs w) :
    Calls Tryd.prog 16 #[v, .string b] w fun e w' => e = .returned (.tuple #[.string (encT20 l b), .int .i64 (encE20 l b)]) ∧ Below w.heap.size w w' := by
  have FV := hide hv
  have HC := hide (ptClear_any n v l b w hv hn hl hb hT)
  have HZ := hide (ens_z hl hn)
  have HT := hide hT
  have l200 := hl.len
  obtain ⟨p, c, rfl⟩ := files_formP hv
  have PT := hide (fun k => enT_len (b := bL b) HZ.out l200 (by rw [len_bL]; exact hb) k)
  have D1 : ((⟨#[45, 45]⟩ : ByteArray) ++ b).size ≤ 1002 := app_le (show (⟨#[45, 45]⟩ : ByteArray).size ≤ 2 by decide) hb
  clear hv hl hT
  cases q : clrL l (bL b) with
  | false =>
    rw [q] at HC
    have E1 : Hid (encT20 l b = ⟨#[]⟩) := by show _ = _; unfold encT20; rw [q]; rfl
    have E2 : Hid (encE20 l b = 10) := by show _ = _; unfold encE20; rw [q]; rfl
    clear q FV HZ PT HT
    go_enter Tryd.func16, Tryd.ntmps16
    go_wp2_with fail
    refine HC.out.mono ?_
    rintro e w1 ⟨rfl, b1⟩
    go_wp2_with fail
    go_ret2
    exact ⟨ret_chs E1.out.symm E2.out.symm, b1⟩
  | true =>
    rw [q] at HC
    have E1 : Hid (txt (encP l (bL b)) = encT20 l b) := by show _ = _; unfold encT20; rw [q]; rfl
    have E2 : Hid (encE20 l b = 0) := by show _ = _; unfold encE20; rw [q]; rfl
    clear q
    have D2 : ((⟨#[45, 45]⟩ : ByteArray) ++ b ++ (⟨#[13, 10]⟩ : ByteArray)).size ≤ 1004 := app_le D1 (show (⟨#[13, 10]⟩ : ByteArray).size ≤ 2 by decide)
    have D3 : ((⟨#[45, 45]⟩ : ByteArray) ++ b ++ (⟨#[45, 45]⟩ : ByteArray)).size ≤ 1004 := app_le D1 (show (⟨#[45, 45]⟩ : ByteArray).size ≤ 2 by decide)
    have D4 : ((⟨#[45, 45]⟩ : ByteArray) ++ b ++ (⟨#[45, 45]⟩ : ByteArray) ++ (⟨#[13, 10]⟩ : ByteArray)).size ≤ 1006 := app_le D3 (show (⟨#[13, 10]⟩ : ByteArray).size ≤ 2 by decide)
    have L2 : Hid (bL ((⟨#[45, 45]⟩ : ByteArray) ++ b ++ (⟨#[13, 10]⟩ : ByteArray)) = ([45, 45] ++ bL b) ++ [13, 10]) := by show _ = _; rw [bL_app, bL_app]
    have L4 : Hid (bL ((⟨#[45, 45]⟩ : ByteArray) ++ b ++ (⟨#[45, 45]⟩ : ByteArray) ++ (⟨#[13, 10]⟩ : ByteArray)) = ([45, 45] ++ bL b) ++ [45, 45, 13, 10]) := by show _ = _; rw [bL_app, bL_app, bL_app, List.append_assoc]; rfl
    have sx1 : (⟨#[13, 10]⟩ : ByteArray).size = 2 := rfl
    go_enter Tryd.func16, Tryd.ntmps16
    go_wp2_with fail
    refine HC.out.mono ?_
    rintro e w1 ⟨rfl, b1⟩
    have B1 := hide b1
    have HB0 := hide (HoldsK.new w1)
    have AL0 : Hid (Below w1.heap.size w1 (w1.alloc (.cells #[.pointer none, .slice none 0 0] 54))) := (Below.refl _ w1).alloc (Nat.le_refl _) _
    have SZ0 : Hid (w1.heap.size < (w1.alloc (.cells #[.pointer none, .slice none 0 0] 54)).heap.size) := by show _ < _; simp
    have EN0 : Hid (enT l (bL b) 0 = []) := rfl
    clear b1 HC
    go_wp2_with fail
    go_loopw [15] (fun iv wr => ∃ k : Nat, k ≤ l.length ∧ iv = .int .i64 k ∧ HoldsK w1.heap.size w1.heap.size (enT l (bL b) k) wr ∧ Hid (Below w1.heap.size w1 wr) ∧ Hid (w1.heap.size < wr.heap.size)) (fun iv _ => l.length - (intOf iv).toNat)
    case atStart => exact ⟨0, Nat.zero_le _, rfl, by rw [EN0.out]; exact HB0.out, AL0, SZ0⟩
    case round =>
      rename World => wr
      obtain ⟨k, hk, rfl, HB, BW, SW⟩ := hrel
      clear HB0 AL0 SZ0 EN0
      have L0 := PT.out k
      by_cases g : k < l.length
      · have k1 : (k : Int) < (l.length : Int) := by omega
        have k0 : (0 : Int) ≤ (k : Int) := by omega
        obtain ⟨bb, oo, rfl, EA⟩ := en_of (FV.out.below (chain B1.out BW.out)) g
        have zq := HZ.out _ (List.getElem_mem g)
        have ps := part_size zq
        have HP := hide (fun W (hb : Below w.heap.size w W) => part_any l[k] W zq (HT.out.below hb))
        have EX : Hid (enT l (bL b) (k + 1) = ((((enT l (bL b) k ++ [45, 45]) ++ bL b) ++ [13, 10]) ++ bL (txt (partL l[k]))) ++ [13, 10]) := enT_next l (bL b) g
        have zp : (txt (partL l[k])).size ≤ 16000200 := by show (partL l[k]).length ≤ _; omega
        have a0 := EA.c0
        have a1 := EA.c1
        have a2 := EA.c2
        have a3 := EA.c3
        have a4 := EA.c4
        clear EA zq ps HZ FV PT E1 E2 L4 D3 D4 HT
        generalize txt (partL l[k]) = pt at *
        obtain ⟨C1, hC1⟩ : ∃ x, enT l (bL b) (k + 1) = x := ⟨_, rfl⟩
        rw [hC1] at EX
        have HC1 := hide hC1
        clear hC1
        generalize hC : enT l (bL b) k = C at EX L0 HB
        clear hC
        generalize l[k] = ek at *
        have KE := hide (Bk.new wr [.string ek.name, .string ek.val, .bool ek.file, .string ek.fname, .string ek.typ] 44)
        have AL : Below wr.heap.size wr (wr.alloc (.cells #[.string ek.name, .string ek.val, .bool ek.file, .string ek.fname, .string ek.typ] 44)) := (Below.refl _ wr).alloc (Nat.le_refl _) _
        have HBa := hide (HB.below AL)
        have Bwa : Hid (Below w1.heap.size w1 (wr.alloc (.cells #[.string ek.name, .string ek.val, .bool ek.file, .string ek.fname, .string ek.typ] 44))) := chain BW.out AL
        have GE : Hid (wr.heap.size ≠ w1.heap.size) := by show _ ≠ _; have := SW.out; omega
        have SWa : Hid (w1.heap.size < (wr.alloc (.cells #[.string ek.name, .string ek.val, .bool ek.file, .string ek.fname, .string ek.typ] 44)).heap.size) := by show _ < _; have := SW.out; have := AL.size; omega
        clear AL HB SW
        have tyne : 44 ≠ 5 := by decide
        generalize hB2 : ((⟨#[45, 45]⟩ : ByteArray) ++ b ++ (⟨#[13, 10]⟩ : ByteArray)) = hd at D2 L2
        have HD := hide hB2
        clear hB2
        go_wp2_with fail
        rw [HD.out]
        generalize wr.alloc (.cells #[.string ek.name, .string ek.val, .bool ek.file, .string ek.fname, .string ek.typ] 44) = wa at *
        refine (writeStringK w1.heap.size w1.heap.size C hd wa HBa.out (by omega) Bwa.out.size).mono ?_
        rintro e w2 ⟨rfl, h2, b2, k2⟩
        have K2 := hide (KE.out.oth k2 GE.out tyne)
        have H2 := hide h2
        have B2 : Hid (Below w1.heap.size w1 w2) := Bwa.out.trans b2
        have x0 := K2.out.cell 0 rfl
        have x1 := K2.out.cell 1 rfl
        have x2 := K2.out.cell 2 rfl
        have x3 := K2.out.cell 3 rfl
        have x4 := K2.out.cell 4 rfl
        clear h2 b2 k2 KE HBa Bwa
        go_wp2_with fail
        refine (HP.out _ (chain B1.out B2.out)).mono ?_
        rintro e w3 ⟨rfl, b3⟩
        have H3 := hide (H2.out.below b3)
        have B3 := hide (chain B2.out b3)
        have C3 : (C ++ hd.data.toList).length ≤ 4000001004 := by rw [List.length_append]; show C.length + (bL hd).length ≤ _; rw [len_bL]; omega
        clear b3 H2 HP x0 x1 x2 x3 x4
        go_wp2_with fail
        refine (writeStringK w1.heap.size w1.heap.size (C ++ hd.data.toList) pt w3 H3.out (by omega) B3.out.size).mono ?_
        rintro e w4 ⟨rfl, h4, b4, _⟩
        have H4 := hide h4
        have B4 : Hid (Below w1.heap.size w1 w4) := B3.out.trans b4
        have C4 : (C ++ hd.data.toList ++ pt.data.toList).length ≤ 4016001204 := by rw [List.length_append]; show _ + (bL pt).length ≤ _; rw [len_bL]; omega
        clear h4 b4 H3
        go_wp2_with fail
        refine (writeStringK w1.heap.size w1.heap.size (C ++ hd.data.toList ++ pt.data.toList) ⟨#[13, 10]⟩ w4 H4.out (by omega) B4.out.size).mono ?_
        rintro e w5 ⟨rfl, h5, b5, _⟩
        have H5 : Hid (HoldsK w1.heap.size w1.heap.size C1 w5) := by
          show HoldsK _ _ _ _
          rw [EX.out]
          have : ((((C ++ [45, 45]) ++ bL b) ++ [13, 10]) ++ bL pt) ++ [13, 10] = ((C ++ hd.data.toList) ++ pt.data.toList) ++ (⟨#[13, 10]⟩ : ByteArray).data.toList := by
            show _ = ((C ++ bL hd) ++ bL pt) ++ [13, 10]
            rw [L2.out]; simp
          rw [this]; exact h5
        have B5 : Hid (Below w1.heap.size w1 w5) := B4.out.trans b5
        have S5 : Hid (w1.heap.size < w5.heap.size) := holdsK_lt H5.out
        clear h5 b5 H4
        go_wp2_with fail
        go_roundw
        case rel => exact ⟨k + 1, by omega, by go_num, by rw [HC1.out]; exact H5.out, B5, S5⟩
        case measure => simp [intOf]; omega
      · obtain rfl : k = l.length := by omega
        have EA : Hid (((enT l (bL b) l.length ++ [45, 45]) ++ bL b) ++ [45, 45, 13, 10] = encP l (bL b)) := enT_all l (bL b)
        clear FV HZ PT HT D2 L2
        generalize enT l (bL b) l.length = C at *
        generalize encP l (bL b) = EP at *
        generalize hB2 : ((⟨#[45, 45]⟩ : ByteArray) ++ b ++ (⟨#[45, 45]⟩ : ByteArray) ++ (⟨#[13, 10]⟩ : ByteArray)) = hd at D4 L4
        have HD := hide hB2
        clear hB2
        go_wp2_with fail
        rw [HD.out]
        refine (writeStringK w1.heap.size w1.heap.size C hd wr HB (by omega) BW.out.size).mono ?_
        rintro e w2 ⟨rfl, h2, b2, _⟩
        have H2 : Hid (HoldsK w1.heap.size w1.heap.size EP w2) := by
          show HoldsK _ _ _ _
          rw [← EA.out]
          have : (((C ++ [45, 45]) ++ bL b) ++ [45, 45, 13, 10]) = C ++ hd.data.toList := by
            show _ = C ++ bL hd
            rw [L4.out]; simp
          rw [this]; exact h2
        have B2 : Hid (Below w1.heap.size w1 w2) := BW.out.trans b2
        clear h2 b2 HB EA L4
        go_wp2_with fail
        refine (builderTextK _ _ _ _ H2.out B2.out.size).mono ?_
        rintro e w3 ⟨rfl, h3, b3, _⟩
        have B3 : Hid (Below w1.heap.size w1 w3) := B2.out.trans b3
        clear h3 b3
        go_wp2_with fail
        go_ret2
        exact ⟨ret_chs E1.out E2.out.symm, chain B1.out B3.out⟩
end Go.Proofs.YtgibkbeakfaehaaDoor

namespace Go.Proofs.YtgibkbeakfaehaaDoor
open Go.RowKit
set_option maxRecDepth 100000
def ptL : List En := [⟨⟨#[97]⟩, ⟨#[49]⟩, false, ⟨#[]⟩, ⟨#[]⟩⟩]
theorem pt_enc : encT20 ptL ⟨#[120]⟩ = ⟨#[45, 45, 120, 13, 10, 67, 111, 110, 116, 101, 110, 116, 45, 68, 105, 115, 112, 111, 115, 105, 116, 105, 111, 110, 58, 32, 102, 111, 114, 109, 45, 100, 97, 116, 97, 59, 32, 110, 97, 109, 101, 61, 34, 97, 34, 13, 10, 13, 10, 49, 13, 10, 45, 45, 120, 45, 45, 13, 10]⟩ := by kernel_rfl
theorem pt_err : encE20 ptL ⟨#[120]⟩ = 0 := by kernel_rfl
theorem pt_ok : EnsOK 10 ptL := ⟨by decide, fun e q => by
  simp only [ptL, List.mem_cons, List.not_mem_nil, or_false] at q
  subst q
  decide⟩
set_option maxHeartbeats 8000000 in
theorem ptWakes_any (w : World) (hT : PtTabs w) :
    Calls Tryd.prog 8 #[] w fun e w' => e = .returned (.bool true) ∧ Below w.heap.size w w' := by
  have AL : Hid (Below w.heap.size w (w.alloc (.cells #[.string ⟨#[97]⟩, .string ⟨#[49]⟩, .bool false, .string ⟨#[]⟩, .string ⟨#[]⟩] 44))) := (Below.refl _ w).alloc (Nat.le_refl _) _
  have FV : Hid (FilesV (w.alloc (.cells #[.string ⟨#[97]⟩, .string ⟨#[49]⟩, .bool false, .string ⟨#[]⟩, .string ⟨#[]⟩] 44)) (.slice (some ⟨w.heap.size, 0, none⟩) 1 1) ptL) := files_one w ⟨⟨#[97]⟩, ⟨#[49]⟩, false, ⟨#[]⟩, ⟨#[]⟩⟩
  have HE := hide (ptEncode_any 10 _ ptL ⟨#[120]⟩ _ FV.out (by omega) pt_ok (by decide) (hT.below AL.out))
  rw [pt_enc, pt_err] at HE
  clear FV hT
  go_enter Tryd.func8, Tryd.ntmps8
  go_wp2_with fail
  refine HE.out.mono ?_
  rintro e w1 ⟨rfl, b1⟩
  go_wp2_with fail
  go_ret
  exact ⟨rfl, chain AL.out b1⟩

end Go.Proofs.YtgibkbeakfaehaaDoor
