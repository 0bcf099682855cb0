/- The document's find, begins, quoted, Part of layer 20. The document's Clear, Choose, Encode of layer 20. -/
import Derived.Test.YtgibkbeakfaehaaDoorJpt18
import Derived.Test.YtgibkbeakfaehaaDoorJpt26
import Derived.Test.YtgibkbeakfaehaaDoorJpt27
import Derived.Test.YtgibkbeakfaehaaDoorJpt28

namespace Go.Proofs.YtgibkbeakfaehaaDoor
open Go.RowKit
set_option maxRecDepth 100000
set_option maxHeartbeats 4000000 in
theorem refPart_any (e0 : En) (w : World) (hz : EnZ 1000000 e0) :
    Calls Tryd.prog 32 #[.agg #[.string e0.name, .string e0.val, .bool e0.file, .string e0.fname, .string e0.typ]] w fun e w' => e = .returned (.string (txt (partL e0))) ∧ Below w.heap.size w w' := by
  obtain ⟨z0, z1, z2, z3⟩ := hz
  have H0 := hide (fun W => refName_any_PrtR1 e0.name W (by omega))
  have H1 := hide (fun W => refName_any_PrtR1 e0.fname W (by omega))
  have H2 := hide (fun W => refTypeP_any e0.typ W (by omega))
  have H3 := hide (fun W => refPairs_any e0.val W (by omega))
  have s0 := name_size (s := e0.name)
  have s1 := name_size (s := e0.fname)
  have s2 := type_size (s := e0.typ)
  have s3 := pairsS_size e0.val
  have E : Hid (txt (partL e0) = txt (c1L ++ bL (txt (nameL (bL e0.name))) ++ [34] ++ (if e0.file = true then c2L ++ bL (txt (nameL (bL e0.fname))) ++ [34] ++ c3L ++ bL (txt (typeL (bL e0.typ))) else []) ++ c4L ++ (if e0.file = true then bL e0.val else bL (pairsS e0.val)))) := rfl
  have K := hide (Bk.new w [.string e0.name, .string e0.val, .bool e0.file, .string e0.fname, .string e0.typ] 44)
  have B0 : Hid (Below w.heap.size w (w.alloc (.cells #[.string e0.name, .string e0.val, .bool e0.file, .string e0.fname, .string e0.typ] 44))) := (Below.refl _ w).alloc (Nat.le_refl _) _
  generalize txt (partL e0) = RES at *
  generalize txt (nameL (bL e0.name)) = n0 at *
  generalize txt (nameL (bL e0.fname)) = n1 at *
  generalize txt (typeL (bL e0.typ)) = n2 at *
  generalize pairsS e0.val = n3 at *
  generalize e0.name = t0 at *
  generalize e0.val = t1 at *
  generalize e0.fname = t2 at *
  generalize e0.typ = t3 at *
  generalize e0.file = fb at *
  cases fb with
  | true =>
    rw [if_pos rfl, if_pos rfl] at E
    have E2 : Hid ((⟨#[67, 111, 110, 116, 101, 110, 116, 45, 68, 105, 115, 112, 111, 115, 105, 116, 105, 111, 110, 58, 32, 102, 111, 114, 109, 45, 100, 97, 116, 97, 59, 32, 110, 97, 109, 101, 61, 34]⟩ : ByteArray) ++ n0 ++ ⟨#[34]⟩ ++ ⟨#[59, 32, 102, 105, 108, 101, 110, 97, 109, 101, 61, 34]⟩ ++ n1 ++ ⟨#[34, 13, 10, 67, 111, 110, 116, 101, 110, 116, 45, 84, 121, 112, 101, 58, 32]⟩ ++ n2 ++ ⟨#[13, 10, 13, 10]⟩ ++ t1 = RES) := by
      show _ = _
      rw [E.out, ← txt_bL ((⟨#[67, 111, 110, 116, 101, 110, 116, 45, 68, 105, 115, 112, 111, 115, 105, 116, 105, 111, 110, 58, 32, 102, 111, 114, 109, 45, 100, 97, 116, 97, 59, 32, 110, 97, 109, 101, 61, 34]⟩ : ByteArray) ++ n0 ++ ⟨#[34]⟩ ++ ⟨#[59, 32, 102, 105, 108, 101, 110, 97, 109, 101, 61, 34]⟩ ++ n1 ++ ⟨#[34, 13, 10, 67, 111, 110, 116, 101, 110, 116, 45, 84, 121, 112, 101, 58, 32]⟩ ++ n2 ++ ⟨#[13, 10, 13, 10]⟩ ++ t1)]
      simp only [bL_app, List.append_assoc]
      rfl
    clear E H3
    have S0 : (⟨#[67, 111, 110, 116, 101, 110, 116, 45, 68, 105, 115, 112, 111, 115, 105, 116, 105, 111, 110, 58, 32, 102, 111, 114, 109, 45, 100, 97, 116, 97, 59, 32, 110, 97, 109, 101, 61, 34]⟩ : ByteArray).size ≤ 38 := by decide
    have S1 : ((⟨#[67, 111, 110, 116, 101, 110, 116, 45, 68, 105, 115, 112, 111, 115, 105, 116, 105, 111, 110, 58, 32, 102, 111, 114, 109, 45, 100, 97, 116, 97, 59, 32, 110, 97, 109, 101, 61, 34]⟩ : ByteArray) ++ n0).size ≤ 6000038 := app_le S0 (show n0.size ≤ 6000000 by omega)
    have S2 : ((⟨#[67, 111, 110, 116, 101, 110, 116, 45, 68, 105, 115, 112, 111, 115, 105, 116, 105, 111, 110, 58, 32, 102, 111, 114, 109, 45, 100, 97, 116, 97, 59, 32, 110, 97, 109, 101, 61, 34]⟩ : ByteArray) ++ n0 ++ (⟨#[34]⟩ : ByteArray)).size ≤ 6000039 := app_le S1 (show (⟨#[34]⟩ : ByteArray).size ≤ 1 by decide)
    have S3 : ((⟨#[67, 111, 110, 116, 101, 110, 116, 45, 68, 105, 115, 112, 111, 115, 105, 116, 105, 111, 110, 58, 32, 102, 111, 114, 109, 45, 100, 97, 116, 97, 59, 32, 110, 97, 109, 101, 61, 34]⟩ : ByteArray) ++ n0 ++ (⟨#[34]⟩ : ByteArray) ++ (⟨#[59, 32, 102, 105, 108, 101, 110, 97, 109, 101, 61, 34]⟩ : ByteArray)).size ≤ 6000051 := app_le S2 (show (⟨#[59, 32, 102, 105, 108, 101, 110, 97, 109, 101, 61, 34]⟩ : ByteArray).size ≤ 12 by decide)
    have S4 : ((⟨#[67, 111, 110, 116, 101, 110, 116, 45, 68, 105, 115, 112, 111, 115, 105, 116, 105, 111, 110, 58, 32, 102, 111, 114, 109, 45, 100, 97, 116, 97, 59, 32, 110, 97, 109, 101, 61, 34]⟩ : ByteArray) ++ n0 ++ (⟨#[34]⟩ : ByteArray) ++ (⟨#[59, 32, 102, 105, 108, 101, 110, 97, 109, 101, 61, 34]⟩ : ByteArray) ++ n1).size ≤ 12000051 := app_le S3 (show n1.size ≤ 6000000 by omega)
    have S5 : ((⟨#[67, 111, 110, 116, 101, 110, 116, 45, 68, 105, 115, 112, 111, 115, 105, 116, 105, 111, 110, 58, 32, 102, 111, 114, 109, 45, 100, 97, 116, 97, 59, 32, 110, 97, 109, 101, 61, 34]⟩ : ByteArray) ++ n0 ++ (⟨#[34]⟩ : ByteArray) ++ (⟨#[59, 32, 102, 105, 108, 101, 110, 97, 109, 101, 61, 34]⟩ : ByteArray) ++ n1 ++ (⟨#[34, 13, 10, 67, 111, 110, 116, 101, 110, 116, 45, 84, 121, 112, 101, 58, 32]⟩ : ByteArray)).size ≤ 12000068 := app_le S4 (show (⟨#[34, 13, 10, 67, 111, 110, 116, 101, 110, 116, 45, 84, 121, 112, 101, 58, 32]⟩ : ByteArray).size ≤ 17 by decide)
    have S6 : ((⟨#[67, 111, 110, 116, 101, 110, 116, 45, 68, 105, 115, 112, 111, 115, 105, 116, 105, 111, 110, 58, 32, 102, 111, 114, 109, 45, 100, 97, 116, 97, 59, 32, 110, 97, 109, 101, 61, 34]⟩ : ByteArray) ++ n0 ++ (⟨#[34]⟩ : ByteArray) ++ (⟨#[59, 32, 102, 105, 108, 101, 110, 97, 109, 101, 61, 34]⟩ : ByteArray) ++ n1 ++ (⟨#[34, 13, 10, 67, 111, 110, 116, 101, 110, 116, 45, 84, 121, 112, 101, 58, 32]⟩ : ByteArray) ++ n2).size ≤ 13000092 := app_le S5 (show n2.size ≤ 1000024 by omega)
    have S7 : ((⟨#[67, 111, 110, 116, 101, 110, 116, 45, 68, 105, 115, 112, 111, 115, 105, 116, 105, 111, 110, 58, 32, 102, 111, 114, 109, 45, 100, 97, 116, 97, 59, 32, 110, 97, 109, 101, 61, 34]⟩ : ByteArray) ++ n0 ++ (⟨#[34]⟩ : ByteArray) ++ (⟨#[59, 32, 102, 105, 108, 101, 110, 97, 109, 101, 61, 34]⟩ : ByteArray) ++ n1 ++ (⟨#[34, 13, 10, 67, 111, 110, 116, 101, 110, 116, 45, 84, 121, 112, 101, 58, 32]⟩ : ByteArray) ++ n2 ++ (⟨#[13, 10, 13, 10]⟩ : ByteArray)).size ≤ 13000096 := app_le S6 (show (⟨#[13, 10, 13, 10]⟩ : ByteArray).size ≤ 4 by decide)
    go_enter Tryd.func32, Tryd.ntmps32
    go_wp2_with fail
    refine (H0.out _).mono ?_
    rintro e w1 ⟨rfl, b1⟩
    have K1 := hide (K.out.below b1)
    have B1 := hide (chain B0.out b1)
    have x2 := K1.out.cell 2 rfl
    have DR : Below w1.heap.size w1 w1.drew := ⟨rfl, rfl, rfl, Nat.le_refl _, fun _ _ => rfl⟩
    have BD := hide (chain B1.out DR)
    have KD := hide (K1.out.below DR)
    have x1 := K1.out.cell 1 rfl
    have x3 := K1.out.cell 3 rfl
    have x4 := K1.out.cell 4 rfl
    clear b1 B0 K H0 DR B1
    go_wp2_with fail
    generalize (⟨#[67, 111, 110, 116, 101, 110, 116, 45, 68, 105, 115, 112, 111, 115, 105, 116, 105, 111, 110, 58, 32, 102, 111, 114, 109, 45, 100, 97, 116, 97, 59, 32, 110, 97, 109, 101, 61, 34]⟩ : ByteArray) ++ n0 ++ ⟨#[34]⟩ = g0 at *
    have p1 := fun w => run_string_add_sum (P := Tryd.prog) w (g0) (⟨#[59, 32, 102, 105, 108, 101, 110, 97, 109, 101, 61, 34]⟩ : ByteArray) (sum_le' S2 (show (⟨#[59, 32, 102, 105, 108, 101, 110, 97, 109, 101, 61, 34]⟩ : ByteArray).size ≤ 12 by decide) (by decide))
    have p2 := fun w => run_string_add_sum (P := Tryd.prog) w (g0 ++ (⟨#[59, 32, 102, 105, 108, 101, 110, 97, 109, 101, 61, 34]⟩ : ByteArray)) n1 (sum_le' S3 (show n1.size ≤ 6000000 by omega) (by decide))
    have p3 := fun w => run_string_add_sum (P := Tryd.prog) w (g0 ++ (⟨#[59, 32, 102, 105, 108, 101, 110, 97, 109, 101, 61, 34]⟩ : ByteArray) ++ n1) (⟨#[34, 13, 10, 67, 111, 110, 116, 101, 110, 116, 45, 84, 121, 112, 101, 58, 32]⟩ : ByteArray) (sum_le' S4 (show (⟨#[34, 13, 10, 67, 111, 110, 116, 101, 110, 116, 45, 84, 121, 112, 101, 58, 32]⟩ : ByteArray).size ≤ 17 by decide) (by decide))
    have p4 := fun w => run_string_add_sum (P := Tryd.prog) w (g0 ++ (⟨#[59, 32, 102, 105, 108, 101, 110, 97, 109, 101, 61, 34]⟩ : ByteArray) ++ n1 ++ (⟨#[34, 13, 10, 67, 111, 110, 116, 101, 110, 116, 45, 84, 121, 112, 101, 58, 32]⟩ : ByteArray)) n2 (sum_le' S5 (show n2.size ≤ 1000024 by omega) (by decide))
    have p5 := fun w => run_string_add_sum (P := Tryd.prog) w (g0 ++ (⟨#[59, 32, 102, 105, 108, 101, 110, 97, 109, 101, 61, 34]⟩ : ByteArray) ++ n1 ++ (⟨#[34, 13, 10, 67, 111, 110, 116, 101, 110, 116, 45, 84, 121, 112, 101, 58, 32]⟩ : ByteArray) ++ n2) (⟨#[13, 10, 13, 10]⟩ : ByteArray) (sum_le' S6 (show (⟨#[13, 10, 13, 10]⟩ : ByteArray).size ≤ 4 by decide) (by decide))
    have p6 := fun w => run_string_add_sum (P := Tryd.prog) w (g0 ++ (⟨#[59, 32, 102, 105, 108, 101, 110, 97, 109, 101, 61, 34]⟩ : ByteArray) ++ n1 ++ (⟨#[34, 13, 10, 67, 111, 110, 116, 101, 110, 116, 45, 84, 121, 112, 101, 58, 32]⟩ : ByteArray) ++ n2 ++ (⟨#[13, 10, 13, 10]⟩ : ByteArray)) t1 (sum_le' S7 (show t1.size ≤ 1000000 by omega) (by decide))
    refine wp_region_held_drew (S := fun X : World => X.cell? ⟨w.heap.size, 1, none⟩ = some (.string t1) ∧ X.cell? ⟨w.heap.size, 3, none⟩ = some (.string t2) ∧ X.cell? ⟨w.heap.size, 4, none⟩ = some (.string t3)) (by kernel_rfl) ?_ (fun hHeld => ?_)
    · exact ⟨x1, x3, x4⟩
    refine wpAnyH_take (i := 0) (oi := { dst := some 11, op := Op.move (Operand.tmp 3), type := 9, pos := "ref.go:88", after := #[], guard := none }) (v := ?_) rfl (by kernel_rfl) (by kernel_rfl) (by kernel_rfl) (fun _ _ _ h => h) (Or.inl ⟨by rfl, ?_⟩) (by assumption) ?_
    rotate_left
    · (intro w hSw; (try dsimp only at hSw); first | (go_simp; done) | (go_simp; with_reducible rfl))
    simp only [Act.put, List.setIfInBounds_toArray, List.set_cons_zero, List.set_cons_succ]
    refine wpAnyH_take (i := 1) (oi := { dst := some 12, op := Op.binOp BinOp.add 9 (Operand.tmp 11) (Operand.const (Value.string { data := #[59, 32, 102, 105, 108, 101, 110, 97, 109, 101, 61, 34] })) 9, type := 9, pos := "ref.go:88", after := #[{ on := 0, ground := Ground.data }], guard := none }) (v := ?_) rfl (by kernel_rfl) (by kernel_rfl) (by kernel_rfl) (fun _ _ _ h => h) (Or.inl ⟨by rfl, ?_⟩) (by assumption) ?_
    rotate_left
    · (intro w hSw; (try dsimp only at hSw); first | (go_simp; done) | (go_simp; with_reducible rfl))
    simp only [Act.put, List.setIfInBounds_toArray, List.set_cons_zero, List.set_cons_succ]
    refine wpAnyH_take (i := 2) (oi := { dst := some 13, op := Op.fieldAddr 44 (Operand.tmp 1) 3, type := 0, pos := "ref.go:88", after := #[], guard := none }) (v := ?_) rfl (by kernel_rfl) (by kernel_rfl) (by kernel_rfl) (fun _ _ _ h => h) (Or.inl ⟨by rfl, ?_⟩) (by assumption) ?_
    rotate_left
    · (intro w hSw; (try dsimp only at hSw); first | (go_simp; done) | (go_simp; with_reducible rfl))
    simp only [Act.put, List.setIfInBounds_toArray, List.set_cons_zero, List.set_cons_succ]
    refine wpAnyH_take (i := 3) (oi := { dst := some 14, op := Op.load 9 (Operand.tmp 13), type := 9, pos := "ref.go:88", after := #[{ on := 2, ground := Ground.data }], guard := none }) (v := ?_) rfl (by kernel_rfl) (by kernel_rfl) (by kernel_rfl) (fun _ _ _ h => h) (Or.inl ⟨by rfl, ?_⟩) (by assumption) ?_
    rotate_left
    · (intro w hSw; (try dsimp only at hSw); first | (go_simp; done) | (go_simp; with_reducible rfl))
    simp only [Act.put, List.setIfInBounds_toArray, List.set_cons_zero, List.set_cons_succ]
    refine wpAnyH_take (i := 7) (oi := { dst := some 18, op := Op.fieldAddr 44 (Operand.tmp 1) 4, type := 0, pos := "ref.go:88", after := #[], guard := none }) (v := ?_) rfl (by kernel_rfl) (by kernel_rfl) (by kernel_rfl) (fun _ _ _ h => h) (Or.inl ⟨by rfl, ?_⟩) (by assumption) ?_
    rotate_left
    · (intro w hSw; (try dsimp only at hSw); first | (go_simp; done) | (go_simp; with_reducible rfl))
    simp only [Act.put, List.setIfInBounds_toArray, List.set_cons_zero, List.set_cons_succ]
    refine wpAnyH_take (i := 8) (oi := { dst := some 19, op := Op.load 9 (Operand.tmp 18), type := 9, pos := "ref.go:88", after := #[{ on := 7, ground := Ground.data }], guard := none }) (v := ?_) rfl (by kernel_rfl) (by kernel_rfl) (by kernel_rfl) (fun _ _ _ h => h) (Or.inl ⟨by rfl, ?_⟩) (by assumption) ?_
    rotate_left
    · (intro w hSw; (try dsimp only at hSw); first | (go_simp; done) | (go_simp; with_reducible rfl))
    simp only [Act.put, List.setIfInBounds_toArray, List.set_cons_zero, List.set_cons_succ]
    refine wpAnyH_take (i := 12) (oi := { dst := some 23, op := Op.fieldAddr 44 (Operand.tmp 1) 1, type := 0, pos := "ref.go:88", after := #[], guard := none }) (v := ?_) rfl (by kernel_rfl) (by kernel_rfl) (by kernel_rfl) (fun _ _ _ h => h) (Or.inl ⟨by rfl, ?_⟩) (by assumption) ?_
    rotate_left
    · (intro w hSw; (try dsimp only at hSw); first | (go_simp; done) | (go_simp; with_reducible rfl))
    simp only [Act.put, List.setIfInBounds_toArray, List.set_cons_zero, List.set_cons_succ]
    refine wpAnyH_take (i := 13) (oi := { dst := some 24, op := Op.load 9 (Operand.tmp 23), type := 9, pos := "ref.go:88", after := #[{ on := 12, ground := Ground.data }], guard := none }) (v := ?_) rfl (by kernel_rfl) (by kernel_rfl) (by kernel_rfl) (fun _ _ _ h => h) (Or.inl ⟨by rfl, ?_⟩) (by assumption) ?_
    rotate_left
    · (intro w hSw; (try dsimp only at hSw); first | (go_simp; done) | (go_simp; with_reducible rfl))
    simp only [Act.put, List.setIfInBounds_toArray, List.set_cons_zero, List.set_cons_succ]
    refine wpAnyH_ready (rs := [4]) (by kernel_rfl) (by simp) ?_
    refine AllReadyH.cons (i := 4) (o := { dst := some 15, op := Op.call { callee := Callee.value (Operand.func 41), args := #[Operand.tmp 14], argTypes := #[9] }, type := 9, pos := "ref.go:88", after := #[{ on := 3, ground := Ground.data }], guard := none }) rfl (fun K hK => ?_) AllReadyH.nil
    go_simp
    refine (H1.out _).mono ?_
    rintro e w2 ⟨rfl, b2⟩
    have K2 := hide (KD.out.below b2)
    have B2 := hide (chain BD.out b2)
    clear b2
    go_wp2_with fail
    refine hK.out _ _ ?_ (fun hHeld => ?_)
    · exact ⟨K2.out.cell 1 rfl, K2.out.cell 3 rfl, K2.out.cell 4 rfl⟩
    clear hK K
    refine wpAnyH_take (i := 5) (oi := { dst := some 16, op := Op.binOp BinOp.add 9 (Operand.tmp 12) (Operand.tmp 15) 9, type := 9, pos := "ref.go:88", after := #[{ on := 1, ground := Ground.data }, { on := 4, ground := Ground.data }], guard := none }) (v := ?_) rfl (by kernel_rfl) (by kernel_rfl) (by kernel_rfl) (fun _ _ _ h => h) (Or.inl ⟨by rfl, ?_⟩) (by assumption) ?_
    rotate_left
    · (intro w hSw; (try dsimp only at hSw); first | (go_simp; done) | (go_simp; with_reducible rfl))
    simp only [Act.put, List.setIfInBounds_toArray, List.set_cons_zero, List.set_cons_succ]
    refine wpAnyH_take (i := 6) (oi := { dst := some 17, op := Op.binOp BinOp.add 9 (Operand.tmp 16) (Operand.const (Value.string { data := #[34, 13, 10, 67, 111, 110, 116, 101, 110, 116, 45, 84, 121, 112, 101, 58, 32] })) 9, type := 9, pos := "ref.go:88", after := #[{ on := 5, ground := Ground.data }], guard := none }) (v := ?_) rfl (by kernel_rfl) (by kernel_rfl) (by kernel_rfl) (fun _ _ _ h => h) (Or.inl ⟨by rfl, ?_⟩) (by assumption) ?_
    rotate_left
    · (intro w hSw; (try dsimp only at hSw); first | (go_simp; done) | (go_simp; with_reducible rfl))
    simp only [Act.put, List.setIfInBounds_toArray, List.set_cons_zero, List.set_cons_succ]
    refine wpAnyH_ready (rs := [9]) (by kernel_rfl) (by simp) ?_
    refine AllReadyH.cons (i := 9) (o := { dst := some 20, op := Op.call { callee := Callee.value (Operand.func 23), args := #[Operand.tmp 19], argTypes := #[9] }, type := 9, pos := "ref.go:88", after := #[{ on := 8, ground := Ground.data }, { on := 4, ground := Ground.chain }], guard := none }) rfl (fun K hK => ?_) AllReadyH.nil
    go_simp
    refine (H2.out _).mono ?_
    rintro e w3 ⟨rfl, hu⟩
    obtain rfl : w2 = w3 := hu.symm
    go_wp2_with fail
    refine hK.out _ _ ?_ (fun hHeld => ?_)
    · exact ⟨K2.out.cell 1 rfl, K2.out.cell 3 rfl, K2.out.cell 4 rfl⟩
    clear hK K
    refine wpAnyH_take (i := 10) (oi := { dst := some 21, op := Op.binOp BinOp.add 9 (Operand.tmp 17) (Operand.tmp 20) 9, type := 9, pos := "ref.go:88", after := #[{ on := 6, ground := Ground.data }, { on := 9, ground := Ground.data }], guard := none }) (v := ?_) rfl (by kernel_rfl) (by kernel_rfl) (by kernel_rfl) (fun _ _ _ h => h) (Or.inl ⟨by rfl, ?_⟩) (by assumption) ?_
    rotate_left
    · (intro w hSw; (try dsimp only at hSw); first | (go_simp; done) | (go_simp; with_reducible rfl))
    simp only [Act.put, List.setIfInBounds_toArray, List.set_cons_zero, List.set_cons_succ]
    refine wpAnyH_take (i := 11) (oi := { dst := some 22, op := Op.binOp BinOp.add 9 (Operand.tmp 21) (Operand.const (Value.string { data := #[13, 10, 13, 10] })) 9, type := 9, pos := "ref.go:88", after := #[{ on := 10, ground := Ground.data }], guard := none }) (v := ?_) rfl (by kernel_rfl) (by kernel_rfl) (by kernel_rfl) (fun _ _ _ h => h) (Or.inl ⟨by rfl, ?_⟩) (by assumption) ?_
    rotate_left
    · (intro w hSw; (try dsimp only at hSw); first | (go_simp; done) | (go_simp; with_reducible rfl))
    simp only [Act.put, List.setIfInBounds_toArray, List.set_cons_zero, List.set_cons_succ]
    refine wpAnyH_take (i := 14) (oi := { dst := some 25, op := Op.binOp BinOp.add 9 (Operand.tmp 22) (Operand.tmp 24) 9, type := 9, pos := "ref.go:88", after := #[{ on := 11, ground := Ground.data }, { on := 13, ground := Ground.data }], guard := none }) (v := ?_) rfl (by kernel_rfl) (by kernel_rfl) (by kernel_rfl) (fun _ _ _ h => h) (Or.inl ⟨by rfl, ?_⟩) (by assumption) ?_
    rotate_left
    · (intro w hSw; (try dsimp only at hSw); first | (go_simp; done) | (go_simp; with_reducible rfl))
    simp only [Act.put, List.setIfInBounds_toArray, List.set_cons_zero, List.set_cons_succ]
    refine wpAnyH_take (i := 15) (oi := { dst := some 2, op := Op.assign (Operand.tmp 25), type := 9, pos := "ref.go:88", after := #[{ on := 14, ground := Ground.data }, { on := 9, ground := Ground.chain }, { on := 0, ground := Ground.phase }, { on := 1, ground := Ground.phase }, { on := 2, ground := Ground.phase }, { on := 3, ground := Ground.phase }, { on := 4, ground := Ground.phase }, { on := 5, ground := Ground.phase }, { on := 6, ground := Ground.phase }, { on := 7, ground := Ground.phase }, { on := 8, ground := Ground.phase }, { on := 9, ground := Ground.phase }, { on := 10, ground := Ground.phase }, { on := 11, ground := Ground.phase }, { on := 12, ground := Ground.phase }, { on := 13, ground := Ground.phase }, { on := 14, ground := Ground.phase }], guard := none }) (v := ?_) rfl (by kernel_rfl) (by kernel_rfl) (by kernel_rfl) (fun _ _ _ h => h) (Or.inl ⟨by rfl, ?_⟩) (by assumption) ?_
    rotate_left
    · (intro w hSw; (try dsimp only at hSw); first | (go_simp; done) | (go_simp; with_reducible rfl))
    simp only [Act.put, List.setIfInBounds_toArray, List.set_cons_zero, List.set_cons_succ]
    refine wpAnyH_done (by kernel_rfl) ?_ _
    go_wp2_with fail
    go_ret
    exact ⟨ret_txt E2.out, B2.out⟩
  | false =>
    rw [if_neg (by decide), if_neg (by decide), List.append_nil] at E
    have E2 : Hid ((⟨#[67, 111, 110, 116, 101, 110, 116, 45, 68, 105, 115, 112, 111, 115, 105, 116, 105, 111, 110, 58, 32, 102, 111, 114, 109, 45, 100, 97, 116, 97, 59, 32, 110, 97, 109, 101, 61, 34]⟩ : ByteArray) ++ n0 ++ ⟨#[34]⟩ ++ ⟨#[13, 10, 13, 10]⟩ ++ n3 = RES) := by
      show _ = _
      rw [E.out, ← txt_bL ((⟨#[67, 111, 110, 116, 101, 110, 116, 45, 68, 105, 115, 112, 111, 115, 105, 116, 105, 111, 110, 58, 32, 102, 111, 114, 109, 45, 100, 97, 116, 97, 59, 32, 110, 97, 109, 101, 61, 34]⟩ : ByteArray) ++ n0 ++ ⟨#[34]⟩ ++ ⟨#[13, 10, 13, 10]⟩ ++ n3)]
      simp only [bL_app, List.append_assoc]
      rfl
    clear E H1 H2
    have S0 : (⟨#[67, 111, 110, 116, 101, 110, 116, 45, 68, 105, 115, 112, 111, 115, 105, 116, 105, 111, 110, 58, 32, 102, 111, 114, 109, 45, 100, 97, 116, 97, 59, 32, 110, 97, 109, 101, 61, 34]⟩ : ByteArray).size ≤ 38 := by decide
    have S1 : ((⟨#[67, 111, 110, 116, 101, 110, 116, 45, 68, 105, 115, 112, 111, 115, 105, 116, 105, 111, 110, 58, 32, 102, 111, 114, 109, 45, 100, 97, 116, 97, 59, 32, 110, 97, 109, 101, 61, 34]⟩ : ByteArray) ++ n0).size ≤ 6000038 := app_le S0 (show n0.size ≤ 6000000 by omega)
    have S2 : ((⟨#[67, 111, 110, 116, 101, 110, 116, 45, 68, 105, 115, 112, 111, 115, 105, 116, 105, 111, 110, 58, 32, 102, 111, 114, 109, 45, 100, 97, 116, 97, 59, 32, 110, 97, 109, 101, 61, 34]⟩ : ByteArray) ++ n0 ++ (⟨#[34]⟩ : ByteArray)).size ≤ 6000039 := app_le S1 (show (⟨#[34]⟩ : ByteArray).size ≤ 1 by decide)
    have S3 : ((⟨#[67, 111, 110, 116, 101, 110, 116, 45, 68, 105, 115, 112, 111, 115, 105, 116, 105, 111, 110, 58, 32, 102, 111, 114, 109, 45, 100, 97, 116, 97, 59, 32, 110, 97, 109, 101, 61, 34]⟩ : ByteArray) ++ n0 ++ (⟨#[34]⟩ : ByteArray) ++ (⟨#[13, 10, 13, 10]⟩ : ByteArray)).size ≤ 6000043 := app_le S2 (show (⟨#[13, 10, 13, 10]⟩ : ByteArray).size ≤ 4 by decide)
    go_enter Tryd.func32, Tryd.ntmps32
    go_wp2_with fail
    refine (H0.out _).mono ?_
    rintro e w1 ⟨rfl, b1⟩
    have K1 := hide (K.out.below b1)
    have B1 := hide (chain B0.out b1)
    have x2 := K1.out.cell 2 rfl
    have x1 := K1.out.cell 1 rfl
    clear b1 B0 K H0
    go_wp2_with fail
    refine (H3.out _).mono ?_
    rintro e w2 ⟨rfl, b2⟩
    have B2 := hide (chain B1.out b2)
    go_wp2_with fail
    go_ret
    exact ⟨ret_txt E2.out, B2.out⟩
end Go.Proofs.YtgibkbeakfaehaaDoor

namespace Go.Proofs.YtgibkbeakfaehaaDoor
open Go.RowKit
set_option maxRecDepth 100000
theorem fnd_pos {t l : List UInt8} : decide (0 ≤ fndI t l 0) = !(cutL t l).isNone := by
  unfold fndI
  cases cutL t l with
  | none => rfl
  | some p => exact decide_eq_true (by show (0 : Int) ≤ ((0 + p.1.length : Nat) : Int); omega)
theorem all_takeE (f : En → Bool) (l : List En) {k : Nat} (h : k < l.length) : (l.take (k + 1)).all f = ((l.take k).all f && f l[k]) := by
  rw [List.take_succ_eq_append_getElem h, List.all_append]; simp
set_option maxHeartbeats 8000000 in
theorem refClear_any (n : Nat) (v : Value) (l : List En) (b : ByteArray) (w : World) (hv : FilesV w v l) (hn : n ≤ 1000000) (hl : EnsOK n l) (hb : b.size ≤ 1099511627776) :
    Calls Tryd.prog 13 #[v, .string b] w fun e w' => e = .returned (.bool (clrL l (bL b))) ∧ Below w.heap.size w w' := by
  have FV := hide hv
  have HF := hide (refFit_any b w hb)
  have HZ := hide (ens_z hl hn)
  have l200 := hl.len
  have E : Hid (clrL l (bL b) = (fitL (bL b) && l.all fun e => (cutL (bL b) (partL e)).isNone)) := rfl
  generalize clrL l (bL b) = RES at *
  obtain ⟨p, c, rfl⟩ := files_formP hv
  clear hv hl
  cases ft : fitL (bL b) with
  | false =>
    rw [ft] at HF E
    clear ft
    go_enter Tryd.func13, Tryd.ntmps13
    go_wp2_with fail
    refine HF.out.mono ?_
    rintro e w1 ⟨rfl, b1⟩
    go_wp2_with fail
    go_ret
    exact ⟨ret_bool E.out.symm, b1⟩
  | true =>
    rw [ft, Bool.true_and] at E
    rw [ft] at HF
    clear ft
    go_enter Tryd.func13, Tryd.ntmps13
    go_wp2_with fail
    refine HF.out.mono ?_
    rintro e w1 ⟨rfl, b1⟩
    go_wp2_with fail
    go_loopw [5] (fun iv wr => ∃ k : Nat, k ≤ l.length ∧ iv = .int .i64 k ∧ Hid ((l.take k).all (fun e => (cutL (bL b) (partL e)).isNone) = true) ∧ Hid (Below w.heap.size w wr)) (fun iv _ => l.length - (intOf iv).toNat)
    case atStart => exact ⟨0, Nat.zero_le _, rfl, rfl, b1⟩
    case round =>
      rename World => wr
      obtain ⟨k, hk, rfl, HA, BW⟩ := hrel
      by_cases g : k < l.length
      · have k1 : (k : Int) < (l.length : Int) := by omega
        have k0 : (0 : Int) ≤ (k : Int) := by omega
        obtain ⟨bb, oo, rfl, EA⟩ := en_of (FV.out.below BW.out) g
        have a0 := EA.c0
        have a1 := EA.c1
        have a2 := EA.c2
        have a3 := EA.c3
        have a4 := EA.c4
        have zz := HZ.out _ (List.getElem_mem g)
        have ps := part_size zz
        have HP := hide (fun W => refPart_any l[k] W zz)
        have HI := hide (fun W => refFindP_any (txt (partL l[k])) b 0 W (by show (partL l[k]).length ≤ _; omega) hb (Nat.zero_le _))
        have ER : Hid (fndI (bL b) ((bL (txt (partL l[k]))).drop 0) 0 = fndI (bL b) (partL l[k]) 0) := rfl
        rw [ER.out] at HI
        have FP := hide (fnd_pos (t := bL b) (l := partL l[k]))
        have TK := hide (all_takeE (fun e => (cutL (bL b) (partL e)).isNone) l g)
        rw [HA.out, Bool.true_and] at TK
        have NO : Hid ((cutL (bL b) (partL l[k])).isNone = false → RES = false) := fun t => by
          rw [E.out]
          exact List.all_eq_false.2 ⟨l[k], List.getElem_mem g, by rw [t]; decide⟩
        clear EA zz ps ER HA E HZ FV
        generalize fndI (bL b) (partL l[k]) 0 = z at *
        have TK2 : Hid ((l.take (k + 1)).all (fun e => (cutL (bL b) (partL e)).isNone) = (cutL (bL b) (partL l[k])).isNone) := TK.out
        clear TK
        generalize (cutL (bL b) (partL l[k])).isNone = nn at *
        generalize txt (partL l[k]) = pt at *
        generalize l[k].name = t0 at *
        generalize l[k].val = t1 at *
        generalize l[k].file = t2 at *
        generalize l[k].fname = t3 at *
        generalize l[k].typ = t4 at *
        cases nn with
        | true =>
          have d : decide (0 ≤ z) = false := FP.out
          have TKx : Hid ((l.take (k + 1)).all (fun e => (cutL (bL b) (partL e)).isNone) = true) := TK2.out
          clear NO FP TK2
          go_wp2_with fail
          refine (HP.out _).mono ?_
          rintro e w2 ⟨rfl, b2⟩
          go_wp2_with fail
          refine (HI.out _).mono ?_
          rintro e w3 ⟨rfl, hu⟩
          obtain rfl : w2 = w3 := hu.symm
          go_wp2_with fail
          go_roundw
          case rel => exact ⟨k + 1, by omega, by go_num, TKx, chain BW.out b2⟩
          case measure => simp [intOf]; omega
        | false =>
          have d : decide (0 ≤ z) = true := FP.out
          have R1 := hide (NO.out rfl)
          clear NO FP TK2
          go_wp2_with fail
          refine (HP.out _).mono ?_
          rintro e w2 ⟨rfl, b2⟩
          go_wp2_with fail
          refine (HI.out _).mono ?_
          rintro e w3 ⟨rfl, hu⟩
          obtain rfl : w2 = w3 := hu.symm
          go_wp2_with fail
          go_ret
          exact ⟨ret_bool R1.out.symm, chain BW.out b2⟩
      · obtain rfl : k = l.length := by omega
        rw [List.take_length] at HA
        rw [HA.out] at E
        clear HA FV HZ
        go_wp2_with fail
        go_ret
        exact ⟨ret_bool E.out.symm, BW.out⟩

end Go.Proofs.YtgibkbeakfaehaaDoor
