/- The document's Fit, Name, Unname, Type of layer 20. The document's Asks, first, Query of layer 24. -/
import Derived.Test.YtnojgejcmaajmaaRows
import Derived.Test.YtnojgejcmaajmaaJsp1
import Derived.Test.YtnojgejcmaajmaaJsp3
import Derived.Test.YtnojgejcmaajmaaJsp8
import Derived.Test.YtnojgejcmaajmaaJsp13
import Derived.Deep.RegionHeld3
import Derived.Laws.Concat

namespace Go.Proofs.Ytnojgejcmaajmaa
open Go.RowKit
set_option maxRecDepth 100000
theorem at_bL {s : ByteArray} {k : Nat} (h : k < s.size) : (bL s)[k]'(by simpa using h) = s[k] := by
  show s.data.toList[k]'(by simpa using h) = s[k]
  simp; rfl
theorem len_bL (s : ByteArray) : (bL s).length = s.size := by simp
end Go.Proofs.Ytnojgejcmaajmaa

namespace Go.Proofs.Ytnojgejcmaajmaa
open Go.RowKit
set_option maxRecDepth 100000
theorem ne_intS {a c : UInt8} (h : ¬ a = c) : ((a.toNat : Int) == (c.toNat : Int)) = false := by
  rw [beq_eq_false_iff_ne]; intro e; exact h (UInt8.toNat_inj.1 (by omega))
/-- The way to the first place of a byte. -/
def FsAt (c : UInt8) (s : ByteArray) (k : Nat) : Prop := fst8 c (bL s) = k + fst8 c ((bL s).drop k)
theorem fs_start (c : UInt8) (s : ByteArray) : FsAt c s 0 := by show _ = _; rw [Nat.zero_add]; rfl
theorem fs_hit {c : UInt8} {s : ByteArray} {k : Nat} (h : FsAt c s k) (g : k < s.size) (e : s[k] = c) : fst8 c (bL s) = k := by
  unfold FsAt at h
  rw [h, show (bL s).drop k = s[k] :: (bL s).drop (k + 1) from drop1 s k g]
  unfold fst8
  rw [List.takeWhile_cons_of_neg (by rw [e]; simp)]; rfl
theorem fs_next {c : UInt8} {s : ByteArray} {k : Nat} (h : FsAt c s k) (g : k < s.size) (e : ¬ s[k] = c) : FsAt c s (k + 1) := by
  unfold FsAt at h ⊢
  rw [h, show (bL s).drop k = s[k] :: (bL s).drop (k + 1) from drop1 s k g]
  unfold fst8
  rw [List.takeWhile_cons_of_pos (by simp [e]), List.length_cons]; omega
theorem fs_end {c : UInt8} {s : ByteArray} (h : FsAt c s s.size) : fst8 c (bL s) = s.size := by
  unfold FsAt at h
  rw [h, List.drop_eq_nil_of_le (by rw [len_bL]; exact Nat.le_refl _)]; rfl
theorem fst_le (c : UInt8) (l : List UInt8) : fst8 c l ≤ l.length := (List.takeWhile_prefix _).length_le
set_option maxHeartbeats 4000000 in
theorem refFirstS_any (s : ByteArray) (c : UInt8) (w : World) (hs : s.size ≤ 140737488351232) :
    Calls Try.prog 11 #[.string s, .int .u8 (c.toNat : Int)] w fun e w' => e = .returned (.int .i64 (fst8 c (bL s) : Nat)) ∧ w' = w := by
  obtain ⟨RES, hRES⟩ : ∃ R : Nat, Hid (fst8 c (bL s) = R) := ⟨_, show _ = _ from rfl⟩
  rw [hRES.out]
  go_enter Try.func11, Try.ntmps11
  go_wp2_with fail
  go_loop [5] (fun i => ∃ k : Nat, k ≤ s.size ∧ i = .int .i64 k ∧ Hid (FsAt c s k)) (fun i => s.size - (intOf i).toNat)
  case atStart => exact ⟨0, Nat.zero_le _, rfl, fs_start c s⟩
  case round =>
    obtain ⟨k, hk, rfl, hd⟩ := hrel
    by_cases hlt : k < s.size
    · have i1 : (k : Int) < (s.size : Int) := by omega
      by_cases hc : s[k] = c
      · have E : Hid ((k : Int) = (RES : Int)) := by show _ = _; rw [← hRES.out, fs_hit hd.out hlt hc]
        have i3 : ((s[k].toNat : Int) == (c.toNat : Int)) = true := by rw [hc]; simp
        clear hd hc hRES
        go_wp2_with fail
        go_ret
        exact ⟨ret_int E.out, rfl⟩
      · have i3 := ne_intS hc
        have hd' : Hid (FsAt c s (k + 1)) := fs_next hd.out hlt hc
        clear hd hc hRES
        go_wp2_with fail
        go_round
        case rel => exact ⟨k + 1, by omega, by go_num, hd'⟩
        case measure => simp [intOf]; omega
    · obtain rfl : k = s.size := by omega
      have E : Hid ((s.size : Int) = (RES : Int)) := by show _ = _; rw [← hRES.out, fs_end hd.out]
      clear hd hRES
      go_wp2_with fail
      go_ret
      exact ⟨ret_int E.out, rfl⟩
theorem qry_is (a q : ByteArray) (h : Nat) (e : fst8 35 (bL a) = h) (k : Nat) (g : fst8 63 (bL (a.extract 0 h)) = k) : (a.extract 0 h).extract 0 k ++ (⟨#[63]⟩ : ByteArray) ++ q ++ a.extract h a.size = txt (qryL (bL a) (bL q)) := by
  have ex : ∀ (s : ByteArray) (i : Nat), bL (s.extract 0 i) = (bL s).take i := fun s i => by
    show (s.extract 0 i).data.toList = _
    simp only [ByteArray.data_extract, Array.toList_extract]; rw [List.extract_eq_take_drop]; simp
  have ed : bL (a.extract h a.size) = (bL a).drop h := by
    show (a.extract h a.size).data.toList = _
    simp only [ByteArray.data_extract, Array.toList_extract]; rw [List.extract_eq_take_drop]
    exact List.take_of_length_le (by rw [List.length_drop, len_bL]; exact Nat.le_refl _)
  have key : bL ((a.extract 0 h).extract 0 k ++ (⟨#[63]⟩ : ByteArray) ++ q ++ a.extract h a.size) = qryL (bL a) (bL q) := by
    rw [ex] at g
    unfold qryL
    rw [e, g]
    show ((a.extract 0 h).extract 0 k ++ (⟨#[63]⟩ : ByteArray) ++ q ++ a.extract h a.size).data.toList = _
    simp only [ByteArray.data_append, Array.toList_append]
    rw [show (a.extract h a.size).data.toList = _ from ed, show ((a.extract 0 h).extract 0 k).data.toList = _ from ex _ _, ex]
    simp
  rw [← key]; rfl
set_option maxHeartbeats 4000000 in
theorem refQueryS_any (a q : ByteArray) (w : World) (ha : a.size ≤ 140737488351232) (hq : q.size ≤ 140737488351232) :
    Calls Try.prog 6 #[.string a, .string q] w fun e w' => e = .returned (.string (txt (qryL (bL a) (bL q)))) ∧ Below w.heap.size w w' := by
  obtain ⟨h, eh⟩ : ∃ h, fst8 35 (bL a) = h := ⟨_, rfl⟩
  obtain ⟨k, ek⟩ : ∃ k, fst8 63 (bL (a.extract 0 h)) = k := ⟨_, rfl⟩
  have E := hide (qry_is a q h eh k ek)
  have hh : h ≤ a.size := by have := fst_le 35 (bL a); rw [len_bL, eh] at this; exact this
  have sz : (a.extract 0 h).size = h := by rw [ByteArray.size_extract]; omega
  have kk : k ≤ (a.extract 0 h).size := by have := fst_le 63 (bL (a.extract 0 h)); rw [len_bL, ek] at this; exact this
  have H1 := hide (fun W => refFirstS_any a 35 W ha)
  have H2 := hide (fun W => refFirstS_any (a.extract 0 h) 63 W (by omega))
  rw [eh] at H1
  rw [ek] at H2
  generalize txt (qryL (bL a) (bL q)) = RES at *
  clear eh ek
  have h0 : (0 : Int) ≤ (h : Int) := by omega
  have h1 : (h : Int) ≤ (a.size : Int) := by omega
  have k0 : (0 : Int) ≤ (k : Int) := by omega
  have k1 : (k : Int) ≤ ((a.extract 0 h).size : Int) := by omega
  have kh : k ≤ h := by omega
  have Z1 : ((a.extract 0 h).extract 0 k).size ≤ 140737488351232 := by rw [ByteArray.size_extract]; omega
  have Z2 : ((a.extract 0 h).extract 0 k ++ (⟨#[63]⟩ : ByteArray)).size ≤ 140737488351233 := by rw [ByteArray.size_append]; exact Nat.add_le_add Z1 (show (⟨#[63]⟩ : ByteArray).size ≤ 1 by decide)
  have Z3 : ((a.extract 0 h).extract 0 k ++ (⟨#[63]⟩ : ByteArray) ++ q).size ≤ 281474976702465 := by rw [ByteArray.size_append]; omega
  have Z4 : (a.extract h a.size).size ≤ 140737488351232 := by rw [ByteArray.size_extract]; omega
  go_enter Try.func6, Try.ntmps6
  go_wp2_with fail
  refine (H1.out _).mono ?_
  rintro e w1 ⟨rfl, hu⟩
  obtain rfl : w = w1 := hu.symm
  go_wp2_with fail
  have p1 := fun W => run_string_add_sum (P := Try.prog) W ((a.extract 0 h).extract 0 k) (⟨#[63]⟩ : ByteArray) (by have := (show (⟨#[63]⟩ : ByteArray).size ≤ 1 by decide); omega)
  have p2 := fun W => run_string_add_sum (P := Try.prog) W ((a.extract 0 h).extract 0 k ++ (⟨#[63]⟩ : ByteArray)) q (by omega)
  have p3 := fun W => run_string_add_sum (P := Try.prog) W ((a.extract 0 h).extract 0 k ++ (⟨#[63]⟩ : ByteArray) ++ q) (a.extract h a.size) (by omega)
  refine wp_region_held_drew (S := fun X : World => True) (by kernel_rfl) ?_ (fun hHeld => ?_)
  · exact trivial
  refine wpAnyH_take (i := 0) (oi := { dst := some 12, op := Op.move (Operand.tmp 6), type := 9, pos := "ref.go:89", after := #[], guard := none }) (v := ?_) rfl (by kernel_rfl) (by kernel_rfl) (by kernel_rfl) (fun _ _ _ h => h) (Or.inl ⟨by rfl, ?_⟩) (by assumption) ?_
  rotate_left
  · (intro w hSw; (try dsimp only at hSw); first | (go_simp; done) | (go_simp; with_reducible rfl))
  simp only [Act.put, List.setIfInBounds_toArray, List.set_cons_zero, List.set_cons_succ]
  refine wpAnyH_take (i := 1) (oi := { dst := some 13, op := Op.move (Operand.tmp 6), type := 9, pos := "ref.go:89", after := #[], guard := none }) (v := ?_) rfl (by kernel_rfl) (by kernel_rfl) (by kernel_rfl) (fun _ _ _ h => h) (Or.inl ⟨by rfl, ?_⟩) (by assumption) ?_
  rotate_left
  · (intro w hSw; (try dsimp only at hSw); first | (go_simp; done) | (go_simp; with_reducible rfl))
  simp only [Act.put, List.setIfInBounds_toArray, List.set_cons_zero, List.set_cons_succ]
  refine wpAnyH_take (i := 5) (oi := { dst := some 17, op := Op.move (Operand.tmp 1), type := 9, pos := "ref.go:89", after := #[], guard := none }) (v := ?_) rfl (by kernel_rfl) (by kernel_rfl) (by kernel_rfl) (fun _ _ _ h => h) (Or.inl ⟨by rfl, ?_⟩) (by assumption) ?_
  rotate_left
  · (intro w hSw; (try dsimp only at hSw); first | (go_simp; done) | (go_simp; with_reducible rfl))
  simp only [Act.put, List.setIfInBounds_toArray, List.set_cons_zero, List.set_cons_succ]
  refine wpAnyH_take (i := 7) (oi := { dst := some 19, op := Op.move (Operand.tmp 0), type := 9, pos := "ref.go:89", after := #[], guard := none }) (v := ?_) rfl (by kernel_rfl) (by kernel_rfl) (by kernel_rfl) (fun _ _ _ h => h) (Or.inl ⟨by rfl, ?_⟩) (by assumption) ?_
  rotate_left
  · (intro w hSw; (try dsimp only at hSw); first | (go_simp; done) | (go_simp; with_reducible rfl))
  simp only [Act.put, List.setIfInBounds_toArray, List.set_cons_zero, List.set_cons_succ]
  refine wpAnyH_take (i := 8) (oi := { dst := some 20, op := Op.move (Operand.tmp 5), type := 3, pos := "ref.go:89", after := #[], guard := none }) (v := ?_) rfl (by kernel_rfl) (by kernel_rfl) (by kernel_rfl) (fun _ _ _ h => h) (Or.inl ⟨by rfl, ?_⟩) (by assumption) ?_
  rotate_left
  · (intro w hSw; (try dsimp only at hSw); first | (go_simp; done) | (go_simp; with_reducible rfl))
  simp only [Act.put, List.setIfInBounds_toArray, List.set_cons_zero, List.set_cons_succ]
  refine wpAnyH_take (i := 9) (oi := { dst := some 21, op := Op.slice 9 (Operand.tmp 19) (some (Operand.tmp 20)) none none, type := 9, pos := "ref.go:89", after := #[{ on := 7, ground := Ground.data }, { on := 8, ground := Ground.data }], guard := none }) (v := ?_) rfl (by kernel_rfl) (by kernel_rfl) (by kernel_rfl) (fun _ _ _ h => h) (Or.inl ⟨by rfl, ?_⟩) (by assumption) ?_
  rotate_left
  · (intro w hSw; (try dsimp only at hSw); first | (go_simp; done) | (go_simp; with_reducible rfl))
  simp only [Act.put, List.setIfInBounds_toArray, List.set_cons_zero, List.set_cons_succ]
  refine wpAnyH_ready (rs := [2]) (by kernel_rfl) (by simp) ?_
  refine AllReadyH.cons (i := 2) (o := { dst := some 14, op := Op.call { callee := Callee.value (Operand.func 11), args := #[Operand.tmp 13, Operand.const (Value.int IntKind.u8 63)], argTypes := #[9, 5] }, type := 3, pos := "ref.go:89", after := #[{ on := 1, ground := Ground.data }], guard := none }) rfl (fun K hK => ?_) AllReadyH.nil
  go_simp
  refine (H2.out _).mono ?_
  rintro e w2 ⟨rfl, hu⟩
  obtain rfl : w.drew = w2 := hu.symm
  go_wp2_with fail
  refine hK.out _ _ ?_ (fun hHeld => ?_)
  · exact trivial
  clear hK K
  refine wpAnyH_take (i := 3) (oi := { dst := some 15, op := Op.slice 9 (Operand.tmp 12) none (some (Operand.tmp 14)) none, type := 9, pos := "ref.go:89", after := #[{ on := 0, ground := Ground.data }, { on := 2, ground := Ground.data }], guard := none }) (v := ?_) rfl (by kernel_rfl) (by kernel_rfl) (by kernel_rfl) (fun _ _ _ h => h) (Or.inl ⟨by rfl, ?_⟩) (by assumption) ?_
  rotate_left
  · (intro w hSw; (try dsimp only at hSw); first | (go_simp; done) | (go_simp; with_reducible rfl))
  simp only [Act.put, List.setIfInBounds_toArray, List.set_cons_zero, List.set_cons_succ]
  refine wpAnyH_take (i := 4) (oi := { dst := some 16, op := Op.binOp BinOp.add 9 (Operand.tmp 15) (Operand.const (Value.string { data := #[63] })) 9, type := 9, pos := "ref.go:89", after := #[{ on := 3, ground := Ground.data }], guard := none }) (v := ?_) rfl (by kernel_rfl) (by kernel_rfl) (by kernel_rfl) (fun _ _ _ h => h) (Or.inl ⟨by rfl, ?_⟩) (by assumption) ?_
  rotate_left
  · (intro w hSw; (try dsimp only at hSw); first | (go_simp; done) | (go_simp; with_reducible rfl))
  simp only [Act.put, List.setIfInBounds_toArray, List.set_cons_zero, List.set_cons_succ]
  refine wpAnyH_take (i := 6) (oi := { dst := some 18, op := Op.binOp BinOp.add 9 (Operand.tmp 16) (Operand.tmp 17) 9, type := 9, pos := "ref.go:89", after := #[{ on := 4, ground := Ground.data }, { on := 5, ground := Ground.data }], guard := none }) (v := ?_) rfl (by kernel_rfl) (by kernel_rfl) (by kernel_rfl) (fun _ _ _ h => h) (Or.inl ⟨by rfl, ?_⟩) (by assumption) ?_
  rotate_left
  · (intro w hSw; (try dsimp only at hSw); first | (go_simp; done) | (go_simp; with_reducible rfl))
  simp only [Act.put, List.setIfInBounds_toArray, List.set_cons_zero, List.set_cons_succ]
  refine wpAnyH_take (i := 10) (oi := { dst := some 22, op := Op.binOp BinOp.add 9 (Operand.tmp 18) (Operand.tmp 21) 9, type := 9, pos := "ref.go:89", after := #[{ on := 6, ground := Ground.data }, { on := 9, ground := Ground.data }], guard := none }) (v := ?_) rfl (by kernel_rfl) (by kernel_rfl) (by kernel_rfl) (fun _ _ _ h => h) (Or.inl ⟨by rfl, ?_⟩) (by assumption) ?_
  rotate_left
  · (intro w hSw; (try dsimp only at hSw); first | (go_simp; done) | (go_simp; with_reducible rfl))
  simp only [Act.put, List.setIfInBounds_toArray, List.set_cons_zero, List.set_cons_succ]
  refine wpAnyH_take (i := 11) (oi := { dst := some 4, op := Op.assign (Operand.tmp 22), type := 9, pos := "ref.go:89", after := #[{ on := 10, ground := Ground.data }, { on := 2, ground := Ground.chain }, { on := 0, ground := Ground.phase }, { on := 1, ground := Ground.phase }, { on := 2, ground := Ground.phase }, { on := 3, ground := Ground.phase }, { on := 4, ground := Ground.phase }, { on := 5, ground := Ground.phase }, { on := 6, ground := Ground.phase }, { on := 7, ground := Ground.phase }, { on := 8, ground := Ground.phase }, { on := 9, ground := Ground.phase }, { on := 10, ground := Ground.phase }], guard := none }) (v := ?_) rfl (by kernel_rfl) (by kernel_rfl) (by kernel_rfl) (fun _ _ _ h => h) (Or.inl ⟨by rfl, ?_⟩) (by assumption) ?_
  rotate_left
  · (intro w hSw; (try dsimp only at hSw); first | (go_simp; done) | (go_simp; with_reducible rfl))
  simp only [Act.put, List.setIfInBounds_toArray, List.set_cons_zero, List.set_cons_succ]
  refine wpAnyH_done (by kernel_rfl) ?_ _
  go_wp2_with fail
  go_ret
  exact ⟨ret_str E.out, ⟨rfl, rfl, rfl, Nat.le_refl _, fun _ _ => rfl⟩⟩

end Go.Proofs.Ytnojgejcmaajmaa
