/- The program's quote, unquote and part of layer 20. -/
import Derived.Test.YtmnpnpmopbkabaaDoorJpl9

namespace Go.Proofs.YtmnpnpmopbkabaaDoor
open Go.RowKit
set_option maxRecDepth 100000
theorem sgIx0 (a b c d e f : Value) (w : World) : (Instr.index 75 (.agg #[a, b, c, d, e, f]) (.int .i64 0)).run Tryd.prog w = .ok (.agg #[a, b]) w := by kernel_rfl
theorem sgIx1 (a b c d e f : Value) (w : World) : (Instr.index 75 (.agg #[a, b, c, d, e, f]) (.int .i64 1)).run Tryd.prog w = .ok (.agg #[c, d]) w := by kernel_rfl
theorem sgIx2 (a b c d e f : Value) (w : World) : (Instr.index 75 (.agg #[a, b, c, d, e, f]) (.int .i64 2)).run Tryd.prog w = .ok (.agg #[e, f]) w := by kernel_rfl
def qS : Nat → List UInt8 → List UInt8
  | 0, l => l
  | 1, l => repA [10] [37, 48, 65] l
  | 2, l => repA [13] [37, 48, 68] (repA [10] [37, 48, 65] l)
  | _, l => repA [34] [37, 50, 50] (repA [13] [37, 48, 68] (repA [10] [37, 48, 65] l))
theorem rep_len3 (c : UInt8) (a b d : UInt8) (l : List UInt8) : (repA [c] [a, b, d] l).length ≤ 3 * l.length := by
  rw [rep_map]
  induction l with
  | nil => simp
  | cons x l ih =>
    rw [List.flatMap_cons, List.length_append, List.length_cons]
    have : (if x = c then [a, b, d] else [x]).length ≤ 3 := by split <;> simp
    omega
theorem qS_len (k : Nat) (l : List UInt8) : (qS k l).length ≤ 27 * l.length := by
  have h1 := rep_len3 10 37 48 65 l
  have h2 := rep_len3 13 37 48 68 (repA [10] [37, 48, 65] l)
  have h3 := rep_len3 34 37 50 50 (repA [13] [37, 48, 68] (repA [10] [37, 48, 65] l))
  match k with
  | 0 => show l.length ≤ _; omega
  | 1 => show (repA [10] [37, 48, 65] l).length ≤ _; omega
  | 2 => show (repA [13] [37, 48, 68] (repA [10] [37, 48, 65] l)).length ≤ _; omega
  | _ + 3 => show (repA [34] [37, 50, 50] (repA [13] [37, 48, 68] (repA [10] [37, 48, 65] l))).length ≤ _; omega
set_option maxHeartbeats 8000000 in
theorem quote_any (s : ByteArray) (w : World) (hs : s.size ≤ 16000000) (hT : PtTabs w) :
    Calls Tryd.prog 35 #[.string s] w fun e w' => e = .returned (.string (txt (nameL (bL s)))) ∧ Below w.heap.size w w' := by
  have HP : Hid (Calls Tryd.prog 27 #[.string s] w fun r w' => r = .returned (.string (txt (prsL (bL s)))) ∧ Below w.heap.size w w') := pairs_any s w (by omega)
  have PZ : (prsL (bL s)).length ≤ 2 * s.size := by have := pairsS_size s; exact this
  have EQ : Hid (qS 3 (prsL (bL s)) = nameL (bL s)) := rep_name _
  have HT := hide hT
  generalize nameL (bL s) = RES at *
  generalize prsL (bL s) = p at *
  have pz : p.length ≤ 32000000 := by omega
  clear PZ
  go_enter Tryd.func35, Tryd.ntmps35
  go_wp2_with fail
  refine HP.out.mono ?_
  rintro e w1 ⟨rfl, b1⟩
  have B1 := hide b1
  have T1 := hT.below b1
  have c0 := T1.sg.c0
  have c1 := T1.sg.c1
  have c2 := T1.sg.c2
  have c3 := T1.sg.c3
  have c4 := T1.sg.c4
  have c5 := T1.sg.c5
  clear T1 b1 HP hT hs
  go_wp2_with fail
  go_loopw [0, 8] (fun sv iv wr => ∃ k : Nat, k ≤ 3 ∧ iv = .int .i64 k ∧ sv = .string (txt (qS k p)) ∧ Hid (Below w.heap.size w wr)) (fun _ iv _ => 3 - (intOf iv).toNat)
  case atStart => exact ⟨0, by omega, rfl, rfl, B1⟩
  case round =>
    rename World => wr
    obtain ⟨k, hk, rfl, rfl, BW⟩ := hrel
    clear B1 c0 c1 c2 c3 c4 c5
    rcases (by omega : k = 0 ∨ k = 1 ∨ k = 2 ∨ k = 3) with rfl | rfl | rfl | rfl
    · have HR := hide (fun W (hb : Below w.heap.size w W) => replaceP_any (qS 0 p) [10] [37, 48, 65] W (by have := qS_len 0 p; omega) (HT.out.mx.below hb) (by decide) (by decide) (by decide))
      have EN : Hid (repA [10] [37, 48, 65] (qS 0 p) = qS 1 p) := rfl
      rw [EN.out] at HR
      have AL : Below wr.heap.size wr (wr.alloc (.cells #[.string ⟨#[10]⟩, .string ⟨#[37, 48, 65]⟩] 74)) := (Below.refl _ wr).alloc (Nat.le_refl _) _
      have B2 := hide (chain BW.out AL)
      clear AL EN
      have ix := fun w => sgIx0 (.string ⟨#[10]⟩) (.string ⟨#[37, 48, 65]⟩) (.string ⟨#[13]⟩) (.string ⟨#[37, 48, 68]⟩) (.string ⟨#[34]⟩) (.string ⟨#[37, 50, 50]⟩) w
      obtain ⟨p1, hp1⟩ : ∃ p1, p1 = qS 1 p := ⟨_, rfl⟩
      rw [← hp1] at HR
      have HP1 := hide hp1
      clear hp1
      generalize hp0 : qS 0 p = p0 at HR ⊢
      clear hp0
      go_wp2_with fail
      refine (HR.out _ B2.out).mono ?_
      rintro e w3 ⟨rfl, b3⟩
      have B3 := hide (chain B2.out b3)
      clear b3 HR B2 BW
      go_wp2_with fail
      go_roundw
      case rel => exact ⟨1, by omega, rfl, by rw [HP1.out], B3⟩
      case measure => decide
    · have HR := hide (fun W (hb : Below w.heap.size w W) => replaceP_any (qS 1 p) [13] [37, 48, 68] W (by have := qS_len 1 p; omega) (HT.out.mx.below hb) (by decide) (by decide) (by decide))
      have EN : Hid (repA [13] [37, 48, 68] (qS 1 p) = qS 2 p) := rfl
      rw [EN.out] at HR
      have AL : Below wr.heap.size wr (wr.alloc (.cells #[.string ⟨#[13]⟩, .string ⟨#[37, 48, 68]⟩] 74)) := (Below.refl _ wr).alloc (Nat.le_refl _) _
      have B2 := hide (chain BW.out AL)
      clear AL EN
      have ix := fun w => sgIx1 (.string ⟨#[10]⟩) (.string ⟨#[37, 48, 65]⟩) (.string ⟨#[13]⟩) (.string ⟨#[37, 48, 68]⟩) (.string ⟨#[34]⟩) (.string ⟨#[37, 50, 50]⟩) w
      obtain ⟨p1, hp1⟩ : ∃ p1, p1 = qS 2 p := ⟨_, rfl⟩
      rw [← hp1] at HR
      have HP1 := hide hp1
      clear hp1
      generalize hp0 : qS 1 p = p0 at HR ⊢
      clear hp0
      go_wp2_with fail
      refine (HR.out _ B2.out).mono ?_
      rintro e w3 ⟨rfl, b3⟩
      have B3 := hide (chain B2.out b3)
      clear b3 HR B2 BW
      go_wp2_with fail
      go_roundw
      case rel => exact ⟨2, by omega, rfl, by rw [HP1.out], B3⟩
      case measure => decide
    · have HR := hide (fun W (hb : Below w.heap.size w W) => replaceP_any (qS 2 p) [34] [37, 50, 50] W (by have := qS_len 2 p; omega) (HT.out.mx.below hb) (by decide) (by decide) (by decide))
      have EN : Hid (repA [34] [37, 50, 50] (qS 2 p) = qS 3 p) := rfl
      rw [EN.out] at HR
      have AL : Below wr.heap.size wr (wr.alloc (.cells #[.string ⟨#[34]⟩, .string ⟨#[37, 50, 50]⟩] 74)) := (Below.refl _ wr).alloc (Nat.le_refl _) _
      have B2 := hide (chain BW.out AL)
      clear AL EN
      have ix := fun w => sgIx2 (.string ⟨#[10]⟩) (.string ⟨#[37, 48, 65]⟩) (.string ⟨#[13]⟩) (.string ⟨#[37, 48, 68]⟩) (.string ⟨#[34]⟩) (.string ⟨#[37, 50, 50]⟩) w
      obtain ⟨p1, hp1⟩ : ∃ p1, p1 = qS 3 p := ⟨_, rfl⟩
      rw [← hp1] at HR
      have HP1 := hide hp1
      clear hp1
      generalize hp0 : qS 2 p = p0 at HR ⊢
      clear hp0
      go_wp2_with fail
      refine (HR.out _ B2.out).mono ?_
      rintro e w3 ⟨rfl, b3⟩
      have B3 := hide (chain B2.out b3)
      clear b3 HR B2 BW
      go_wp2_with fail
      go_roundw
      case rel => exact ⟨3, by omega, rfl, by rw [HP1.out], B3⟩
      case measure => decide
    · rw [EQ.out]
      clear EQ HT
      go_wp2_with fail
      go_ret
      exact ⟨rfl, BW.out⟩
set_option maxHeartbeats 8000000 in
theorem part_any (e0 : En) (w : World) (hz : EnZ 1000000 e0) (hT : PtTabs w) :
    Calls Tryd.prog 22 #[.agg #[.string e0.name, .string e0.val, .bool e0.file, .string e0.fname, .string e0.typ]] w fun e w' => e = .returned (.string (txt (partL e0))) ∧ Below w.heap.size w w' := by
  obtain ⟨z0, z1, z2, z3⟩ := hz
  have H0 := hide (fun W (hb : Below w.heap.size w W) => quote_any e0.name W (by omega) (hT.below hb))
  have H1 := hide (fun W (hb : Below w.heap.size w W) => quote_any e0.fname W (by omega) (hT.below hb))
  have H2 := hide (fun W => toldType_any e0.typ W (by omega))
  have H3 := hide (fun W => carried_any e0 W (by omega))
  have s0 := name_size (s := e0.name)
  have s1 := name_size (s := e0.fname)
  have s2 := type_size (s := e0.typ)
  have s3 : (txt (valP e0)).size ≤ 2000000 := by
    have := pairsS_size e0.val
    cases h : e0.file with
    | true => rw [val_file h]; omega
    | false => rw [val_text h]; omega
  have E : Hid (txt (partL e0) = txt (c1L ++ bL (txt (nameL (bL e0.name))) ++ [34] ++ (if e0.file = true then c2L ++ bL (txt (nameL (bL e0.fname))) ++ [34] ++ c3L ++ bL (txt (typeL (bL e0.typ))) else []) ++ c4L ++ bL (txt (valP e0)))) := rfl
  have K := hide (Bk.new w [.string e0.name, .string e0.val, .bool e0.file, .string e0.fname, .string e0.typ] 34)
  have B0 : Hid (Below w.heap.size w (w.alloc (.cells #[.string e0.name, .string e0.val, .bool e0.file, .string e0.fname, .string e0.typ] 34))) := (Below.refl _ w).alloc (Nat.le_refl _) _
  generalize txt (partL e0) = RES at *
  generalize txt (nameL (bL e0.name)) = n0 at *
  generalize txt (nameL (bL e0.fname)) = n1 at *
  generalize txt (typeL (bL e0.typ)) = n2 at *
  generalize txt (valP e0) = n3 at *
  generalize e0.name = t0 at *
  generalize e0.val = t1 at *
  generalize e0.fname = t2 at *
  generalize e0.typ = t3 at *
  have f0 : n0.size ≤ 6000000 := by omega
  have f1 : n1.size ≤ 6000000 := by omega
  have f2 : n2.size ≤ 2000000 := by omega
  clear s0 s1 s2 hT
  generalize e0.file = fb at *
  have S0 : (⟨#[67, 111, 110, 116, 101, 110, 116, 45, 68, 105, 115, 112, 111, 115, 105, 116, 105, 111, 110, 58, 32, 102, 111, 114, 109, 45, 100, 97, 116, 97, 59, 32, 110, 97, 109, 101, 61, 34]⟩ : ByteArray).size ≤ 38 := by decide
  have S1 : ((⟨#[67, 111, 110, 116, 101, 110, 116, 45, 68, 105, 115, 112, 111, 115, 105, 116, 105, 111, 110, 58, 32, 102, 111, 114, 109, 45, 100, 97, 116, 97, 59, 32, 110, 97, 109, 101, 61, 34]⟩ : ByteArray) ++ n0).size ≤ 6000038 := app_le S0 f0
  have S2 : ((⟨#[67, 111, 110, 116, 101, 110, 116, 45, 68, 105, 115, 112, 111, 115, 105, 116, 105, 111, 110, 58, 32, 102, 111, 114, 109, 45, 100, 97, 116, 97, 59, 32, 110, 97, 109, 101, 61, 34]⟩ : ByteArray) ++ n0 ++ (⟨#[34]⟩ : ByteArray)).size ≤ 6000039 := app_le S1 (show (⟨#[34]⟩ : ByteArray).size ≤ 1 by decide)
  have NZ : (⟨#[13, 10]⟩ : ByteArray).size ≤ 2 := by decide
  cases fb with
  | true =>
    rw [if_pos rfl] at E
    have E2 : Hid ((⟨#[67, 111, 110, 116, 101, 110, 116, 45, 68, 105, 115, 112, 111, 115, 105, 116, 105, 111, 110, 58, 32, 102, 111, 114, 109, 45, 100, 97, 116, 97, 59, 32, 110, 97, 109, 101, 61, 34]⟩ : ByteArray) ++ n0 ++ ⟨#[34]⟩ ++ (⟨#[59, 32, 102, 105, 108, 101, 110, 97, 109, 101, 61, 34]⟩ ++ n1 ++ ⟨#[34]⟩ ++ ⟨#[13, 10, 67, 111, 110, 116, 101, 110, 116, 45, 84, 121, 112, 101, 58, 32]⟩ ++ n2) ++ ⟨#[13, 10]⟩ ++ ⟨#[13, 10]⟩ ++ n3 = RES) := by
      show _ = _
      rw [E.out, ← txt_bL ((⟨#[67, 111, 110, 116, 101, 110, 116, 45, 68, 105, 115, 112, 111, 115, 105, 116, 105, 111, 110, 58, 32, 102, 111, 114, 109, 45, 100, 97, 116, 97, 59, 32, 110, 97, 109, 101, 61, 34]⟩ : ByteArray) ++ n0 ++ ⟨#[34]⟩ ++ (⟨#[59, 32, 102, 105, 108, 101, 110, 97, 109, 101, 61, 34]⟩ ++ n1 ++ ⟨#[34]⟩ ++ ⟨#[13, 10, 67, 111, 110, 116, 101, 110, 116, 45, 84, 121, 112, 101, 58, 32]⟩ ++ n2) ++ ⟨#[13, 10]⟩ ++ ⟨#[13, 10]⟩ ++ n3)]
      simp only [bL_app, List.append_assoc]
      rfl
    clear E
    have U0 : (⟨#[59, 32, 102, 105, 108, 101, 110, 97, 109, 101, 61, 34]⟩ : ByteArray).size ≤ 12 := by decide
    have U1 : ((⟨#[59, 32, 102, 105, 108, 101, 110, 97, 109, 101, 61, 34]⟩ : ByteArray) ++ n1).size ≤ 6000012 := app_le U0 f1
    have U2 : ((⟨#[59, 32, 102, 105, 108, 101, 110, 97, 109, 101, 61, 34]⟩ : ByteArray) ++ n1 ++ (⟨#[34]⟩ : ByteArray)).size ≤ 6000013 := app_le U1 (show (⟨#[34]⟩ : ByteArray).size ≤ 1 by decide)
    have U3 : ((⟨#[59, 32, 102, 105, 108, 101, 110, 97, 109, 101, 61, 34]⟩ : ByteArray) ++ n1 ++ (⟨#[34]⟩ : ByteArray) ++ (⟨#[13, 10, 67, 111, 110, 116, 101, 110, 116, 45, 84, 121, 112, 101, 58, 32]⟩ : ByteArray)).size ≤ 6000029 := app_le U2 (show (⟨#[13, 10, 67, 111, 110, 116, 101, 110, 116, 45, 84, 121, 112, 101, 58, 32]⟩ : ByteArray).size ≤ 16 by decide)
    have U4 : ((⟨#[59, 32, 102, 105, 108, 101, 110, 97, 109, 101, 61, 34]⟩ : ByteArray) ++ n1 ++ (⟨#[34]⟩ : ByteArray) ++ (⟨#[13, 10, 67, 111, 110, 116, 101, 110, 116, 45, 84, 121, 112, 101, 58, 32]⟩ : ByteArray) ++ n2).size ≤ 8000029 := app_le U3 f2
    have S3 := app_le S2 U4
    have S4 := app_le S3 NZ
    have S5 := app_le S4 NZ
    go_enter Tryd.func22, Tryd.ntmps22
    go_wp2_with fail
    refine (H0.out _ B0.out).mono ?_
    rintro e w1 ⟨rfl, b1⟩
    have K1 := hide (K.out.below b1)
    have B1 := hide (chain B0.out b1)
    have x2 := K1.out.cell 2 rfl
    have DR : Below w1.heap.size w1 w1.drew := ⟨rfl, rfl, rfl, Nat.le_refl _, fun _ _ => rfl⟩
    have BD := hide (chain B1.out DR)
    have KD := hide (K1.out.below DR)
    have x3 := K1.out.cell 3 rfl
    have x4 := K1.out.cell 4 rfl
    clear b1 B0 K H0 DR B1
    go_wp2_with fail
    generalize (⟨#[67, 111, 110, 116, 101, 110, 116, 45, 68, 105, 115, 112, 111, 115, 105, 116, 105, 111, 110, 58, 32, 102, 111, 114, 109, 45, 100, 97, 116, 97, 59, 32, 110, 97, 109, 101, 61, 34]⟩ : ByteArray) ++ n0 ++ ⟨#[34]⟩ = g0 at *
    have p1 := fun w => run_string_add_sum (P := Tryd.prog) w (⟨#[59, 32, 102, 105, 108, 101, 110, 97, 109, 101, 61, 34]⟩ : ByteArray) n1 (sum_le' U0 f1 (by decide))
    have p2 := fun w => run_string_add_sum (P := Tryd.prog) w ((⟨#[59, 32, 102, 105, 108, 101, 110, 97, 109, 101, 61, 34]⟩ : ByteArray) ++ n1) (⟨#[34]⟩ : ByteArray) (sum_le' U1 (show (⟨#[34]⟩ : ByteArray).size ≤ 1 by decide) (by decide))
    have p3 := fun w => run_string_add_sum (P := Tryd.prog) w ((⟨#[59, 32, 102, 105, 108, 101, 110, 97, 109, 101, 61, 34]⟩ : ByteArray) ++ n1 ++ (⟨#[34]⟩ : ByteArray)) (⟨#[13, 10, 67, 111, 110, 116, 101, 110, 116, 45, 84, 121, 112, 101, 58, 32]⟩ : ByteArray) (sum_le' U2 (show (⟨#[13, 10, 67, 111, 110, 116, 101, 110, 116, 45, 84, 121, 112, 101, 58, 32]⟩ : ByteArray).size ≤ 16 by decide) (by decide))
    have p4 := fun w => run_string_add_sum (P := Tryd.prog) w ((⟨#[59, 32, 102, 105, 108, 101, 110, 97, 109, 101, 61, 34]⟩ : ByteArray) ++ n1 ++ (⟨#[34]⟩ : ByteArray) ++ (⟨#[13, 10, 67, 111, 110, 116, 101, 110, 116, 45, 84, 121, 112, 101, 58, 32]⟩ : ByteArray)) n2 (sum_le' U3 f2 (by decide))
    have p5 := fun w => run_string_add_sum (P := Tryd.prog) w g0 ((⟨#[59, 32, 102, 105, 108, 101, 110, 97, 109, 101, 61, 34]⟩ : ByteArray) ++ n1 ++ (⟨#[34]⟩ : ByteArray) ++ (⟨#[13, 10, 67, 111, 110, 116, 101, 110, 116, 45, 84, 121, 112, 101, 58, 32]⟩ : ByteArray) ++ n2) (sum_le' S2 U4 (by decide))
    refine wp_region_held_drew (S := fun X : World => X.cell? ⟨w.heap.size, 3, none⟩ = some (.string t2) ∧ X.cell? ⟨w.heap.size, 4, none⟩ = some (.string t3)) (by kernel_rfl) ?_ (fun hHeld => ?_)
    · exact ⟨x3, x4⟩
    refine wpAnyH_take (i := 0) (oi := { dst := some 11, op := Op.move (Operand.tmp 3), type := 9, pos := "parts.go:120", after := #[], guard := none }) (v := ?_) rfl (by kernel_rfl) (by kernel_rfl) (by kernel_rfl) (fun _ _ _ h => h) (Or.inl ⟨by rfl, ?_⟩) (by assumption) ?_
    rotate_left
    · (intro w hSw; (try dsimp only at hSw); first | (go_simp; done) | (go_simp; with_reducible rfl))
    simp only [Act.put, List.setIfInBounds_toArray, List.set_cons_zero, List.set_cons_succ]
    refine wpAnyH_take (i := 1) (oi := { dst := some 12, op := Op.fieldAddr 34 (Operand.tmp 1) 3, type := 0, pos := "parts.go:120", after := #[], guard := none }) (v := ?_) rfl (by kernel_rfl) (by kernel_rfl) (by kernel_rfl) (fun _ _ _ h => h) (Or.inl ⟨by rfl, ?_⟩) (by assumption) ?_
    rotate_left
    · (intro w hSw; (try dsimp only at hSw); first | (go_simp; done) | (go_simp; with_reducible rfl))
    simp only [Act.put, List.setIfInBounds_toArray, List.set_cons_zero, List.set_cons_succ]
    refine wpAnyH_take (i := 2) (oi := { dst := some 13, op := Op.load 9 (Operand.tmp 12), type := 9, pos := "parts.go:120", after := #[{ on := 1, ground := Ground.data }], guard := none }) (v := ?_) rfl (by kernel_rfl) (by kernel_rfl) (by kernel_rfl) (fun _ _ _ h => h) (Or.inl ⟨by rfl, ?_⟩) (by assumption) ?_
    rotate_left
    · (intro w hSw; (try dsimp only at hSw); first | (go_simp; done) | (go_simp; with_reducible rfl))
    simp only [Act.put, List.setIfInBounds_toArray, List.set_cons_zero, List.set_cons_succ]
    refine wpAnyH_take (i := 7) (oi := { dst := some 18, op := Op.fieldAddr 34 (Operand.tmp 1) 4, type := 0, pos := "parts.go:120", after := #[], guard := none }) (v := ?_) rfl (by kernel_rfl) (by kernel_rfl) (by kernel_rfl) (fun _ _ _ h => h) (Or.inl ⟨by rfl, ?_⟩) (by assumption) ?_
    rotate_left
    · (intro w hSw; (try dsimp only at hSw); first | (go_simp; done) | (go_simp; with_reducible rfl))
    simp only [Act.put, List.setIfInBounds_toArray, List.set_cons_zero, List.set_cons_succ]
    refine wpAnyH_take (i := 8) (oi := { dst := some 19, op := Op.load 9 (Operand.tmp 18), type := 9, pos := "parts.go:120", after := #[{ on := 7, ground := Ground.data }], guard := none }) (v := ?_) rfl (by kernel_rfl) (by kernel_rfl) (by kernel_rfl) (fun _ _ _ h => h) (Or.inl ⟨by rfl, ?_⟩) (by assumption) ?_
    rotate_left
    · (intro w hSw; (try dsimp only at hSw); first | (go_simp; done) | (go_simp; with_reducible rfl))
    simp only [Act.put, List.setIfInBounds_toArray, List.set_cons_zero, List.set_cons_succ]
    refine wpAnyH_ready (rs := [3]) (by kernel_rfl) (by simp) ?_
    refine AllReadyH.cons (i := 3) (o := { dst := some 14, op := Op.call { callee := Callee.value (Operand.func 35), args := #[Operand.tmp 13], argTypes := #[9] }, type := 9, pos := "parts.go:120", after := #[{ on := 2, ground := Ground.data }], guard := none }) rfl (fun K hK => ?_) AllReadyH.nil
    go_simp
    refine (H1.out _ BD.out).mono ?_
    rintro e w2 ⟨rfl, b2⟩
    have K2 := hide (KD.out.below b2)
    have B2 := hide (chain BD.out b2)
    clear b2
    go_wp2_with fail
    refine hK.out _ _ ?_ (fun hHeld => ?_)
    · exact ⟨K2.out.cell 3 rfl, K2.out.cell 4 rfl⟩
    clear hK K
    refine wpAnyH_take (i := 4) (oi := { dst := some 15, op := Op.binOp BinOp.add 9 (Operand.const (Value.string { data := #[59, 32, 102, 105, 108, 101, 110, 97, 109, 101, 61, 34] })) (Operand.tmp 14) 9, type := 9, pos := "parts.go:120", after := #[{ on := 3, ground := Ground.data }], guard := none }) (v := ?_) rfl (by kernel_rfl) (by kernel_rfl) (by kernel_rfl) (fun _ _ _ h => h) (Or.inl ⟨by rfl, ?_⟩) (by assumption) ?_
    rotate_left
    · (intro w hSw; (try dsimp only at hSw); first | (go_simp; done) | (go_simp; with_reducible rfl))
    simp only [Act.put, List.setIfInBounds_toArray, List.set_cons_zero, List.set_cons_succ]
    refine wpAnyH_take (i := 5) (oi := { dst := some 16, op := Op.binOp BinOp.add 9 (Operand.tmp 15) (Operand.const (Value.string { data := #[34] })) 9, type := 9, pos := "parts.go:120", after := #[{ on := 4, ground := Ground.data }], guard := none }) (v := ?_) rfl (by kernel_rfl) (by kernel_rfl) (by kernel_rfl) (fun _ _ _ h => h) (Or.inl ⟨by rfl, ?_⟩) (by assumption) ?_
    rotate_left
    · (intro w hSw; (try dsimp only at hSw); first | (go_simp; done) | (go_simp; with_reducible rfl))
    simp only [Act.put, List.setIfInBounds_toArray, List.set_cons_zero, List.set_cons_succ]
    refine wpAnyH_take (i := 6) (oi := { dst := some 17, op := Op.binOp BinOp.add 9 (Operand.tmp 16) (Operand.const (Value.string { data := #[13, 10, 67, 111, 110, 116, 101, 110, 116, 45, 84, 121, 112, 101, 58, 32] })) 9, type := 9, pos := "parts.go:120", after := #[{ on := 5, ground := Ground.data }], guard := none }) (v := ?_) rfl (by kernel_rfl) (by kernel_rfl) (by kernel_rfl) (fun _ _ _ h => h) (Or.inl ⟨by rfl, ?_⟩) (by assumption) ?_
    rotate_left
    · (intro w hSw; (try dsimp only at hSw); first | (go_simp; done) | (go_simp; with_reducible rfl))
    simp only [Act.put, List.setIfInBounds_toArray, List.set_cons_zero, List.set_cons_succ]
    refine wpAnyH_ready (rs := [9]) (by kernel_rfl) (by simp) ?_
    refine AllReadyH.cons (i := 9) (o := { dst := some 20, op := Op.call { callee := Callee.value (Operand.func 36), args := #[Operand.tmp 19], argTypes := #[9] }, type := 9, pos := "parts.go:120", after := #[{ on := 8, ground := Ground.data }, { on := 3, ground := Ground.chain }], guard := none }) rfl (fun K hK => ?_) AllReadyH.nil
    go_simp
    refine (H2.out _).mono ?_
    rintro e w3 ⟨rfl, hu⟩
    obtain rfl : w2 = w3 := hu.symm
    go_wp2_with fail
    refine hK.out _ _ ?_ (fun hHeld => ?_)
    · exact ⟨K2.out.cell 3 rfl, K2.out.cell 4 rfl⟩
    clear hK K
    refine wpAnyH_take (i := 10) (oi := { dst := some 21, op := Op.binOp BinOp.add 9 (Operand.tmp 17) (Operand.tmp 20) 9, type := 9, pos := "parts.go:120", after := #[{ on := 6, ground := Ground.data }, { on := 9, ground := Ground.data }], guard := none }) (v := ?_) rfl (by kernel_rfl) (by kernel_rfl) (by kernel_rfl) (fun _ _ _ h => h) (Or.inl ⟨by rfl, ?_⟩) (by assumption) ?_
    rotate_left
    · (intro w hSw; (try dsimp only at hSw); first | (go_simp; done) | (go_simp; with_reducible rfl))
    simp only [Act.put, List.setIfInBounds_toArray, List.set_cons_zero, List.set_cons_succ]
    refine wpAnyH_take (i := 11) (oi := { dst := some 22, op := Op.binOp BinOp.add 9 (Operand.tmp 11) (Operand.tmp 21) 9, type := 9, pos := "parts.go:120", after := #[{ on := 0, ground := Ground.data }, { on := 10, ground := Ground.data }], guard := none }) (v := ?_) rfl (by kernel_rfl) (by kernel_rfl) (by kernel_rfl) (fun _ _ _ h => h) (Or.inl ⟨by rfl, ?_⟩) (by assumption) ?_
    rotate_left
    · (intro w hSw; (try dsimp only at hSw); first | (go_simp; done) | (go_simp; with_reducible rfl))
    simp only [Act.put, List.setIfInBounds_toArray, List.set_cons_zero, List.set_cons_succ]
    refine wpAnyH_take (i := 12) (oi := { dst := some 3, op := Op.assign (Operand.tmp 22), type := 9, pos := "parts.go:120", after := #[{ on := 11, ground := Ground.data }, { on := 9, ground := Ground.chain }, { on := 0, ground := Ground.phase }, { on := 1, ground := Ground.phase }, { on := 2, ground := Ground.phase }, { on := 3, ground := Ground.phase }, { on := 4, ground := Ground.phase }, { on := 5, ground := Ground.phase }, { on := 6, ground := Ground.phase }, { on := 7, ground := Ground.phase }, { on := 8, ground := Ground.phase }, { on := 9, ground := Ground.phase }, { on := 10, ground := Ground.phase }, { on := 11, ground := Ground.phase }], guard := none }) (v := ?_) rfl (by kernel_rfl) (by kernel_rfl) (by kernel_rfl) (fun _ _ _ h => h) (Or.inl ⟨by rfl, ?_⟩) (by assumption) ?_
    rotate_left
    · (intro w hSw; (try dsimp only at hSw); first | (go_simp; done) | (go_simp; with_reducible rfl))
    simp only [Act.put, List.setIfInBounds_toArray, List.set_cons_zero, List.set_cons_succ]
    refine wpAnyH_done (by kernel_rfl) ?_ _
    have y0 := K2.out.cell 0 rfl
    have y1 := K2.out.cell 1 rfl
    have y2 := K2.out.cell 2 rfl
    have y3 := K2.out.cell 3 rfl
    have y4 := K2.out.cell 4 rfl
    go_wp2_with fail
    refine (H3.out _).mono ?_
    rintro e w4 ⟨rfl, b4⟩
    have B4 := hide (chain B2.out b4)
    go_wp2_with fail
    go_ret
    exact ⟨ret_txt E2.out, B4.out⟩
  | false =>
    rw [if_neg (by decide), List.append_nil] at E
    have E2 : Hid ((⟨#[67, 111, 110, 116, 101, 110, 116, 45, 68, 105, 115, 112, 111, 115, 105, 116, 105, 111, 110, 58, 32, 102, 111, 114, 109, 45, 100, 97, 116, 97, 59, 32, 110, 97, 109, 101, 61, 34]⟩ : ByteArray) ++ n0 ++ ⟨#[34]⟩ ++ ⟨#[13, 10]⟩ ++ ⟨#[13, 10]⟩ ++ n3 = RES) := by
      show _ = _
      rw [E.out, ← txt_bL ((⟨#[67, 111, 110, 116, 101, 110, 116, 45, 68, 105, 115, 112, 111, 115, 105, 116, 105, 111, 110, 58, 32, 102, 111, 114, 109, 45, 100, 97, 116, 97, 59, 32, 110, 97, 109, 101, 61, 34]⟩ : ByteArray) ++ n0 ++ ⟨#[34]⟩ ++ ⟨#[13, 10]⟩ ++ ⟨#[13, 10]⟩ ++ n3)]
      simp only [bL_app, List.append_assoc]
      rfl
    clear E H1 H2
    have S4 := app_le S2 NZ
    have S5 := app_le S4 NZ
    have S6 := app_le S5 s3
    go_enter Tryd.func22, Tryd.ntmps22
    go_wp2_with fail
    refine (H0.out _ B0.out).mono ?_
    rintro e w1 ⟨rfl, b1⟩
    have K1 := hide (K.out.below b1)
    have B1 := hide (chain B0.out b1)
    have x0 := K1.out.cell 0 rfl
    have x1 := K1.out.cell 1 rfl
    have x2 := K1.out.cell 2 rfl
    have x3 := K1.out.cell 3 rfl
    have x4 := K1.out.cell 4 rfl
    clear b1 B0 K H0
    go_wp2_with fail
    refine (H3.out _).mono ?_
    rintro e w2 ⟨rfl, b2⟩
    have B2 := hide (chain B1.out b2)
    go_wp2_with fail
    go_ret
    exact ⟨ret_txt E2.out, B2.out⟩

end Go.Proofs.YtmnpnpmopbkabaaDoor
