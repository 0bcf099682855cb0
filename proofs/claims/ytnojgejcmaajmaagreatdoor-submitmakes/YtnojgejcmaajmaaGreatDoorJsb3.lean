/- The program's byType and Of of layer 11. The program's Of of layer 11. The program's isSmall, isName, isText, called of layer 10. The program's areAttrs, isFormed of layer 10. The program's isFormed of layer 10. The program's downwards of layer 10. -/
import Derived.Test.YtnojgejcmaajmaaGreatDoorJsb4
import Derived.Deep.DeepCutAuto
import Derived.Deep.RegionHeld3
import Derived.Deep.RegionWith
import Derived.BigRegion

namespace Go.Proofs.YtnojgejcmaajmaaGreatDoor
open Go.RowKit
set_option maxHeartbeats 4000000 in
set_option maxRecDepth 100000 in
theorem byType1_any (x : ByteArray × ByteArray) (W : World) :
    Calls Tryz.prog 140 #[.agg #[.string x.1, .string x.2]] W fun e w' => e = .returned (.bool (isN tyS x)) ∧ Below W.heap.size W w' := by
  have E : Hid ((x.1.toList == [116, 121, 112, 101]) = isN tyS x) := lit_dec x.1 [116, 121, 112, 101]
  generalize isN tyS x = r at *
  generalize x.1 = a at *
  generalize x.2 = b at *
  go_enter Tryz.func140, Tryz.ntmps140
  go_wp2_with fail
  go_ret
  exact ⟨ret_bool E.out, (Below.refl _ W).alloc (Nat.le_refl _) _⟩
theorem entersBy : ∀ args w, (callFunc 140 args).run Tryz.prog w = .ok (.enter 140 args) w := Go.Proofs.enters_of Tryz.func140 (by kernel_rfl) rfl
theorem by_pred (w : World) : PredA 140 #[] (isN tyS) w := fun W x _ => byType1_any x W
set_option maxHeartbeats 4000000 in
set_option maxRecDepth 100000 in
theorem byType_any (n : Nd) (va vk : Value) (f l : Nat) (z : Int) (w : World) (hT : KTabs w) (ha : AttrsV w va n.attrs) (hl : n.attrs.length ≤ 4398046511104) (hs : ∀ a ∈ n.attrs, a.2.size ≤ 140737488351232) :
    Calls Tryz.prog 74 #[.agg #[.string n.name, .string n.text, va, .int .i64 n.parent, vk], .int .i64 (f : Int), .int .i64 (l : Int), .int .i64 z] w fun e w' => e = .returned (.int .i64 (byT (tyOf n.attrs) f l z)) ∧ Below w.heap.size w w' := by
  have B0 : Hid (Below w.heap.size w (w.alloc (.cells #[.string n.name, .string n.text, va, .int .i64 n.parent, vk] 57))) := (Below.refl _ w).alloc (Nat.le_refl _) _
  have k0 : (w.alloc (.cells #[.string n.name, .string n.text, va, .int .i64 n.parent, vk] 57)).cell? ⟨w.heap.size, 0, none⟩ = some (.string n.name) := by simp
  have k1 : (w.alloc (.cells #[.string n.name, .string n.text, va, .int .i64 n.parent, vk] 57)).cell? ⟨w.heap.size, 1, none⟩ = some (.string n.text) := by simp
  have k2 : (w.alloc (.cells #[.string n.name, .string n.text, va, .int .i64 n.parent, vk] 57)).cell? ⟨w.heap.size, 2, none⟩ = some (va) := by simp
  have k3 : (w.alloc (.cells #[.string n.name, .string n.text, va, .int .i64 n.parent, vk] 57)).cell? ⟨w.heap.size, 3, none⟩ = some (.int .i64 n.parent) := by simp
  have k4 : (w.alloc (.cells #[.string n.name, .string n.text, va, .int .i64 n.parent, vk] 57)).cell? ⟨w.heap.size, 4, none⟩ = some (vk) := by simp
  have HI := hide (indexFuncA_any va n.attrs (isN tyS) 140 #[] entersBy (w.alloc (.cells #[.string n.name, .string n.text, va, .int .i64 n.parent, vk] 57)) (ha.below B0.out) (by_pred _) hl)
  have HTW := hide hT
  have AV := hide (ha.below B0.out)
  have FE : Hid (n.attrs.findIdx? (isN tyS) = findA n.attrs tyS) := rfl
  rw [FE.out] at HI
  obtain ⟨p, c, rfl, hv⟩ := ha
  cases hf : findA n.attrs tyS with
  | none =>
    have E : Hid (byT (tyOf n.attrs) f l z = z) := by show _ = _; unfold tyOf; rw [hf]; rfl
    rw [hf] at HI
    have ev : findV none = -1 := rfl
    rw [ev] at HI
    clear hf hv hs hl hT FE ev
    go_enter Tryz.func74, Tryz.ntmps74
    go_wp2_with fail
    generalize w.alloc (.cells #[.string n.name, .string n.text, .slice p n.attrs.length c, .int .i64 n.parent, vk] 57) = w0 at *
    obtain ⟨nb, hnb⟩ : ∃ nb, Hid (w.heap.size = nb) := ⟨_, show _ = _ from rfl⟩
    refine HI.out.mono ?_
    rintro e w1 ⟨rfl, b1⟩
    go_wp2_with fail
    go_ret
    exact ⟨ret_int E.out.symm, chain B0.out b1⟩
  | some i =>
    obtain ⟨hi, _, _⟩ := List.findIdx?_eq_some_iff_getElem.1 (show n.attrs.findIdx? (isN tyS) = some i from hf)
    obtain ⟨t, ht⟩ : ∃ t, Hid (n.attrs[i].2 = t) := ⟨_, show _ = _ from rfl⟩
    have E : Hid (byT (tyOf n.attrs) f l z = kInt (seekR (lowS t) f l 30 0) z) := by
      show _ = _
      unfold tyOf
      rw [hf, ← ht.out]
      show kInt (seekR (lowS (n.attrs.getD i at0).2) f l 30 0) z = _
      rw [show n.attrs.getD i at0 = n.attrs[i] by simp [List.getD, hi]]
    rw [hf] at HI
    have ev : findV (some i) = (i : Int) := rfl
    rw [ev] at HI
    have i0 : (0 : Int) ≤ (i : Int) := by omega
    have i1 : (i : Int) < (n.attrs.length : Int) := by omega
    have i2 : ¬ (i : Int) < 0 := by omega
    have ts := hs _ (List.getElem_mem hi)
    rw [ht.out] at ts
    have HL := hide (fun W => lower_any t W (by unfold maxLen; omega))
    obtain ⟨b, o, rfl, hv2⟩ : ∃ b o, p = some ⟨b, o, none⟩ ∧ ∀ i (h : i < n.attrs.length), w.cell? ⟨b, o + i * 2, none⟩ = some (.string n.attrs[i].1) ∧ w.cell? ⟨b, o + i * 2 + 1, none⟩ = some (.string n.attrs[i].2) := by
      rcases hv with t | t
      · rw [t] at hi; simp at hi
      · exact t
    have c1 := cell_below (hv2 i hi).2 B0.out
    rw [ht.out] at c1
    obtain ⟨A, hA⟩ : ∃ A, Hid (seekR (lowS t) f l 30 0 = A) := ⟨_, show _ = _ from rfl⟩
    rw [hA.out] at E
    clear hf hv hv2 hs hT FE ev
    go_enter Tryz.func74, Tryz.ntmps74
    go_wp2_with fail
    generalize w.alloc (.cells #[.string n.name, .string n.text, .slice (some ⟨b, o, none⟩) n.attrs.length c, .int .i64 n.parent, vk] 57) = w0 at *
    obtain ⟨nb, hnb⟩ : ∃ nb, Hid (w.heap.size = nb) := ⟨_, show _ = _ from rfl⟩
    refine HI.out.mono ?_
    rintro e w1 ⟨rfl, b1⟩
    have B1 := hide (chain B0.out b1)
    have m2 := cell_below k2 b1
    have c1' := cell_below c1 b1
    clear b1 k0 k1 k2 k3 k4 c1
    go_wp2_with fail
    refine (HL.out _).mono ?_
    rintro e w2 ⟨rfl, b2⟩
    have B2 := hide (chain B1.out b2)
    have T2 := HTW.out.below B2.out
    obtain ⟨CS, hld, hin, hix⟩ := load_types w2 T2
    have HIX := hide hix
    have HLD := hide hld
    have HIN := hide hin
    clear hix hld hin
    clear T2 m2 c1' b2
    generalize lowS t = s at *
    go_upto_region 5 with fail
    refine wp_region_lit ?_
    refine wpList_load_mid rfl 140 _ rfl 1 0 rfl CS _ HLD.out Tryz.underlying140 rfl HIN.out ?_
    generalize CS.toArray = CA at *
    go_wp2_with fail
    go_loop [27] (fun iv => ∃ k : Nat, k ≤ 30 ∧ iv = .int .i64 k ∧ Hid (seekR s f l (30 - k) k = A)) (fun iv => 30 - (intOf iv).toNat)
    case atStart => exact ⟨0, Nat.zero_le _, rfl, hA⟩
    case round =>
      obtain ⟨k, hk, rfl, hn⟩ := hrel
      clear hA
      by_cases hlt : k < 30
      · have hix := HIX.out k hlt w2
        have HB := hide (between_any (k : Int) (f : Int) (l : Int))
        have HIT := hide (fun q1 q2 => seek_hit hlt hn.out q1 q2)
        have MISS := hide (fun q => seek_miss hlt hn.out q)
        have kk : (k : Int) < 30 := by omega
        have TB := hide (txt_beq (typeN k) s)
        cases hb : btwB (k : Int) (f : Int) (l : Int) with
        | false =>
          rw [hb] at HB
          have N := hide (MISS.out (.inl hb))
          clear hb HIT MISS hn
          generalize typeN k = x at *
          go_wp2_with fail
          refine (HB.out _).mono ?_
          rintro e u ⟨rfl, hu⟩
          obtain rfl : w2 = u := hu.symm
          go_wp2_with fail
          go_round
          case rel => exact ⟨k + 1, by omega, by go_num, N⟩
          case measure => simp [intOf]; omega
        | true =>
          rw [hb] at HB
          by_cases he : typeN k = s
          · have q : ((typeN k).toList == s.toList) = true := by rw [TB.out]; exact decide_eq_true he
            have N := hide (HIT.out hb he)
            clear hb HIT MISS hn he
            generalize typeN k = x at *
            go_wp2_with fail
            refine (HB.out _).mono ?_
            rintro e u ⟨rfl, hu⟩
            obtain rfl : w2 = u := hu.symm
            go_wp2_with fail
            go_ret
            exact ⟨by rw [E.out, N.out]; rfl, B2.out⟩
          · have q : ((typeN k).toList == s.toList) = false := by rw [TB.out]; exact decide_eq_false he
            have N := hide (MISS.out (.inr he))
            clear hb HIT MISS hn he
            generalize typeN k = x at *
            go_wp2_with fail
            refine (HB.out _).mono ?_
            rintro e u ⟨rfl, hu⟩
            obtain rfl : w2 = u := hu.symm
            go_wp2_with fail
            go_round
            case rel => exact ⟨k + 1, by omega, by go_num, N⟩
            case measure => simp [intOf]; omega
      · obtain rfl : k = 30 := by omega
        have N : Hid (A = none) := hn.out.symm
        clear hn hlt
        go_wp2_with fail
        go_ret
        exact ⟨by rw [E.out, N.out]; rfl, B2.out⟩
end Go.Proofs.YtnojgejcmaajmaaGreatDoor

namespace Go.Proofs.YtnojgejcmaajmaaGreatDoor
open Go.RowKit
set_option maxHeartbeats 4000000 in
set_option maxRecDepth 100000 in
theorem of_input (n : Nd) (va vk : Value) (w : World) (hT : KTabs w) (ha : AttrsV w va n.attrs) (hl : n.attrs.length ≤ 4398046511104) (hs : ∀ a ∈ n.attrs, a.2.size ≤ 140737488351232) (h : n.name = ⟨#[105, 110, 112, 117, 116]⟩) :
    Calls Tryz.prog 23 #[.agg #[.string n.name, .string n.text, va, .int .i64 n.parent, vk]] w fun e w' => e = .returned (.int .i64 (byT (tyOf n.attrs) 1 22 2)) ∧ Below w.heap.size w w' := by
  have t0 : (n.name.toList == [105, 110, 112, 117, 116]) = true := lit_yes h
  have t1 : (n.name.toList == [115, 101, 108, 101, 99, 116]) = false := by rw [h, ByteArray.toList_eq]; rfl
  have t2 : (n.name.toList == [116, 101, 120, 116, 97, 114, 101, 97]) = false := by rw [h, ByteArray.toList_eq]; rfl
  have t3 : (n.name.toList == [98, 117, 116, 116, 111, 110]) = false := by rw [h, ByteArray.toList_eq]; rfl
  clear h
  have B0 : Hid (Below w.heap.size w (w.alloc (.cells #[.string n.name, .string n.text, va, .int .i64 n.parent, vk] 57))) := (Below.refl _ w).alloc (Nat.le_refl _) _
  have k0 : (w.alloc (.cells #[.string n.name, .string n.text, va, .int .i64 n.parent, vk] 57)).cell? ⟨w.heap.size, 0, none⟩ = some (.string n.name) := by simp
  have k1 : (w.alloc (.cells #[.string n.name, .string n.text, va, .int .i64 n.parent, vk] 57)).cell? ⟨w.heap.size, 1, none⟩ = some (.string n.text) := by simp
  have k2 : (w.alloc (.cells #[.string n.name, .string n.text, va, .int .i64 n.parent, vk] 57)).cell? ⟨w.heap.size, 2, none⟩ = some (va) := by simp
  have k3 : (w.alloc (.cells #[.string n.name, .string n.text, va, .int .i64 n.parent, vk] 57)).cell? ⟨w.heap.size, 3, none⟩ = some (.int .i64 n.parent) := by simp
  have k4 : (w.alloc (.cells #[.string n.name, .string n.text, va, .int .i64 n.parent, vk] 57)).cell? ⟨w.heap.size, 4, none⟩ = some (vk) := by simp
  have HBy := hide (byType_any n va vk 1 22 2 (w.alloc (.cells #[.string n.name, .string n.text, va, .int .i64 n.parent, vk] 57)) (hT.below B0.out) (ha.below B0.out) hl hs)
  clear hT ha hl hs
  go_enter Tryz.func23, Tryz.ntmps23
  go_wp2_with fail
  generalize w.alloc (.cells #[.string n.name, .string n.text, va, .int .i64 n.parent, vk] 57) = w0 at *
  refine HBy.out.mono ?_
  rintro e w1 ⟨rfl, b1⟩
  go_wp2_with fail
  go_ret
  exact ⟨rfl, chain B0.out b1⟩
set_option maxHeartbeats 4000000 in
set_option maxRecDepth 100000 in
theorem of_select (n : Nd) (va vk : Value) (w : World) (h : n.name = ⟨#[115, 101, 108, 101, 99, 116]⟩) :
    Calls Tryz.prog 23 #[.agg #[.string n.name, .string n.text, va, .int .i64 n.parent, vk]] w fun e w' => e = .returned (.int .i64 (23)) ∧ Below w.heap.size w w' := by
  have t0 : (n.name.toList == [105, 110, 112, 117, 116]) = false := by rw [h, ByteArray.toList_eq]; rfl
  have t1 : (n.name.toList == [115, 101, 108, 101, 99, 116]) = true := lit_yes h
  have t2 : (n.name.toList == [116, 101, 120, 116, 97, 114, 101, 97]) = false := by rw [h, ByteArray.toList_eq]; rfl
  have t3 : (n.name.toList == [98, 117, 116, 116, 111, 110]) = false := by rw [h, ByteArray.toList_eq]; rfl
  clear h
  have B0 : Hid (Below w.heap.size w (w.alloc (.cells #[.string n.name, .string n.text, va, .int .i64 n.parent, vk] 57))) := (Below.refl _ w).alloc (Nat.le_refl _) _
  have k0 : (w.alloc (.cells #[.string n.name, .string n.text, va, .int .i64 n.parent, vk] 57)).cell? ⟨w.heap.size, 0, none⟩ = some (.string n.name) := by simp
  have k1 : (w.alloc (.cells #[.string n.name, .string n.text, va, .int .i64 n.parent, vk] 57)).cell? ⟨w.heap.size, 1, none⟩ = some (.string n.text) := by simp
  have k2 : (w.alloc (.cells #[.string n.name, .string n.text, va, .int .i64 n.parent, vk] 57)).cell? ⟨w.heap.size, 2, none⟩ = some (va) := by simp
  have k3 : (w.alloc (.cells #[.string n.name, .string n.text, va, .int .i64 n.parent, vk] 57)).cell? ⟨w.heap.size, 3, none⟩ = some (.int .i64 n.parent) := by simp
  have k4 : (w.alloc (.cells #[.string n.name, .string n.text, va, .int .i64 n.parent, vk] 57)).cell? ⟨w.heap.size, 4, none⟩ = some (vk) := by simp
  go_enter Tryz.func23, Tryz.ntmps23
  go_wp2_with fail
  go_ret
  exact ⟨rfl, B0.out⟩
set_option maxHeartbeats 4000000 in
set_option maxRecDepth 100000 in
theorem of_textarea (n : Nd) (va vk : Value) (w : World) (h : n.name = ⟨#[116, 101, 120, 116, 97, 114, 101, 97]⟩) :
    Calls Tryz.prog 23 #[.agg #[.string n.name, .string n.text, va, .int .i64 n.parent, vk]] w fun e w' => e = .returned (.int .i64 (24)) ∧ Below w.heap.size w w' := by
  have t0 : (n.name.toList == [105, 110, 112, 117, 116]) = false := by rw [h, ByteArray.toList_eq]; rfl
  have t1 : (n.name.toList == [115, 101, 108, 101, 99, 116]) = false := by rw [h, ByteArray.toList_eq]; rfl
  have t2 : (n.name.toList == [116, 101, 120, 116, 97, 114, 101, 97]) = true := lit_yes h
  have t3 : (n.name.toList == [98, 117, 116, 116, 111, 110]) = false := by rw [h, ByteArray.toList_eq]; rfl
  clear h
  have B0 : Hid (Below w.heap.size w (w.alloc (.cells #[.string n.name, .string n.text, va, .int .i64 n.parent, vk] 57))) := (Below.refl _ w).alloc (Nat.le_refl _) _
  have k0 : (w.alloc (.cells #[.string n.name, .string n.text, va, .int .i64 n.parent, vk] 57)).cell? ⟨w.heap.size, 0, none⟩ = some (.string n.name) := by simp
  have k1 : (w.alloc (.cells #[.string n.name, .string n.text, va, .int .i64 n.parent, vk] 57)).cell? ⟨w.heap.size, 1, none⟩ = some (.string n.text) := by simp
  have k2 : (w.alloc (.cells #[.string n.name, .string n.text, va, .int .i64 n.parent, vk] 57)).cell? ⟨w.heap.size, 2, none⟩ = some (va) := by simp
  have k3 : (w.alloc (.cells #[.string n.name, .string n.text, va, .int .i64 n.parent, vk] 57)).cell? ⟨w.heap.size, 3, none⟩ = some (.int .i64 n.parent) := by simp
  have k4 : (w.alloc (.cells #[.string n.name, .string n.text, va, .int .i64 n.parent, vk] 57)).cell? ⟨w.heap.size, 4, none⟩ = some (vk) := by simp
  go_enter Tryz.func23, Tryz.ntmps23
  go_wp2_with fail
  go_ret
  exact ⟨rfl, B0.out⟩
set_option maxHeartbeats 4000000 in
set_option maxRecDepth 100000 in
theorem of_button (n : Nd) (va vk : Value) (w : World) (hT : KTabs w) (ha : AttrsV w va n.attrs) (hl : n.attrs.length ≤ 4398046511104) (hs : ∀ a ∈ n.attrs, a.2.size ≤ 140737488351232) (h : n.name = ⟨#[98, 117, 116, 116, 111, 110]⟩) :
    Calls Tryz.prog 23 #[.agg #[.string n.name, .string n.text, va, .int .i64 n.parent, vk]] w fun e w' => e = .returned (.int .i64 (byT (tyOf n.attrs) 25 27 25)) ∧ Below w.heap.size w w' := by
  have t0 : (n.name.toList == [105, 110, 112, 117, 116]) = false := by rw [h, ByteArray.toList_eq]; rfl
  have t1 : (n.name.toList == [115, 101, 108, 101, 99, 116]) = false := by rw [h, ByteArray.toList_eq]; rfl
  have t2 : (n.name.toList == [116, 101, 120, 116, 97, 114, 101, 97]) = false := by rw [h, ByteArray.toList_eq]; rfl
  have t3 : (n.name.toList == [98, 117, 116, 116, 111, 110]) = true := lit_yes h
  clear h
  have B0 : Hid (Below w.heap.size w (w.alloc (.cells #[.string n.name, .string n.text, va, .int .i64 n.parent, vk] 57))) := (Below.refl _ w).alloc (Nat.le_refl _) _
  have k0 : (w.alloc (.cells #[.string n.name, .string n.text, va, .int .i64 n.parent, vk] 57)).cell? ⟨w.heap.size, 0, none⟩ = some (.string n.name) := by simp
  have k1 : (w.alloc (.cells #[.string n.name, .string n.text, va, .int .i64 n.parent, vk] 57)).cell? ⟨w.heap.size, 1, none⟩ = some (.string n.text) := by simp
  have k2 : (w.alloc (.cells #[.string n.name, .string n.text, va, .int .i64 n.parent, vk] 57)).cell? ⟨w.heap.size, 2, none⟩ = some (va) := by simp
  have k3 : (w.alloc (.cells #[.string n.name, .string n.text, va, .int .i64 n.parent, vk] 57)).cell? ⟨w.heap.size, 3, none⟩ = some (.int .i64 n.parent) := by simp
  have k4 : (w.alloc (.cells #[.string n.name, .string n.text, va, .int .i64 n.parent, vk] 57)).cell? ⟨w.heap.size, 4, none⟩ = some (vk) := by simp
  have HBy := hide (byType_any n va vk 25 27 25 (w.alloc (.cells #[.string n.name, .string n.text, va, .int .i64 n.parent, vk] 57)) (hT.below B0.out) (ha.below B0.out) hl hs)
  clear hT ha hl hs
  go_enter Tryz.func23, Tryz.ntmps23
  go_wp2_with fail
  generalize w.alloc (.cells #[.string n.name, .string n.text, va, .int .i64 n.parent, vk] 57) = w0 at *
  refine HBy.out.mono ?_
  rintro e w1 ⟨rfl, b1⟩
  go_wp2_with fail
  go_ret
  exact ⟨rfl, chain B0.out b1⟩
def lastI (A : Option Nat) : Int := match A with
  | none => 0
  | some i => 28 + (i : Int)
set_option maxHeartbeats 4000000 in
set_option maxRecDepth 100000 in
theorem of_last (n : Nd) (va vk : Value) (w : World) (hT : KTabs w) (h0 : ¬ n.name = ⟨#[105, 110, 112, 117, 116]⟩) (h1 : ¬ n.name = ⟨#[115, 101, 108, 101, 99, 116]⟩) (h2 : ¬ n.name = ⟨#[116, 101, 120, 116, 97, 114, 101, 97]⟩) (h3 : ¬ n.name = ⟨#[98, 117, 116, 116, 111, 110]⟩) :
    Calls Tryz.prog 23 #[.agg #[.string n.name, .string n.text, va, .int .i64 n.parent, vk]] w fun e w' => e = .returned (.int .i64 (lastI (seekL n.name 8 0))) ∧ Below w.heap.size w w' := by
  have TB := hide (fun k => txt_beq n.name (lastN k))
  have t0 := lit_no (l := [105, 110, 112, 117, 116]) h0
  have t1 := lit_no (l := [115, 101, 108, 101, 99, 116]) h1
  have t2 := lit_no (l := [116, 101, 120, 116, 97, 114, 101, 97]) h2
  have t3 := lit_no (l := [98, 117, 116, 116, 111, 110]) h3
  clear h0 h1 h2 h3
  have B0 : Hid (Below w.heap.size w (w.alloc (.cells #[.string n.name, .string n.text, va, .int .i64 n.parent, vk] 57))) := (Below.refl _ w).alloc (Nat.le_refl _) _
  have k0 : (w.alloc (.cells #[.string n.name, .string n.text, va, .int .i64 n.parent, vk] 57)).cell? ⟨w.heap.size, 0, none⟩ = some (.string n.name) := by simp
  have k1 : (w.alloc (.cells #[.string n.name, .string n.text, va, .int .i64 n.parent, vk] 57)).cell? ⟨w.heap.size, 1, none⟩ = some (.string n.text) := by simp
  have k2 : (w.alloc (.cells #[.string n.name, .string n.text, va, .int .i64 n.parent, vk] 57)).cell? ⟨w.heap.size, 2, none⟩ = some (va) := by simp
  have k3 : (w.alloc (.cells #[.string n.name, .string n.text, va, .int .i64 n.parent, vk] 57)).cell? ⟨w.heap.size, 3, none⟩ = some (.int .i64 n.parent) := by simp
  have k4 : (w.alloc (.cells #[.string n.name, .string n.text, va, .int .i64 n.parent, vk] 57)).cell? ⟨w.heap.size, 4, none⟩ = some (vk) := by simp
  have T0 := hT.below B0.out
  obtain ⟨CS, hld, hin, hix⟩ := load_last (w.alloc (.cells #[.string n.name, .string n.text, va, .int .i64 n.parent, vk] 57)) T0
  have HIX := hide hix
  have HLD := hide hld
  have HIN := hide hin
  clear hix hld hin
  obtain ⟨A, hA⟩ : ∃ A, Hid (seekL n.name 8 0 = A) := ⟨_, show _ = _ from rfl⟩
  rw [hA.out]
  clear hT T0
  go_enter Tryz.func23, Tryz.ntmps23
  generalize n.name = nm at *
  go_upto_region 10 with fail
  refine wp_region_lit ?_
  refine wpList_load_mid rfl 103 _ rfl 0 0 rfl CS _ HLD.out Tryz.underlying103 rfl HIN.out ?_
  generalize CS.toArray = CA at *
  go_wp2_with fail
  generalize w.alloc (.cells #[.string nm, .string n.text, va, .int .i64 n.parent, vk] 57) = w0 at *
  go_loop [20] (fun iv => ∃ k : Nat, k ≤ 8 ∧ iv = .int .i64 k ∧ Hid (seekL nm (8 - k) k = A)) (fun iv => 8 - (intOf iv).toNat)
  case atStart => exact ⟨0, Nat.zero_le _, rfl, hA⟩
  case round =>
    obtain ⟨k, hk, rfl, hn⟩ := hrel
    clear hA
    by_cases hlt : k < 8
    · have hix := HIX.out k hlt w0
      have kk : (k : Int) < 8 := by omega
      have ST := hide (hn.out.symm.trans (seekL_step nm k hlt))
      have TK := hide (TB.out k)
      by_cases he : lastN k = nm
      · have q : (nm.toList == (lastN k).toList) = true := by rw [TK.out]; exact decide_eq_true he.symm
        rw [if_pos he] at ST
        clear hn he TB
        generalize lastN k = x at *
        go_wp2_with fail
        go_ret
        exact ⟨by rw [ST.out]; rfl, B0.out⟩
      · have q : (nm.toList == (lastN k).toList) = false := by rw [TK.out]; exact decide_eq_false (fun t => he t.symm)
        rw [if_neg he] at ST
        clear hn he TB
        generalize lastN k = x at *
        go_wp2_with fail
        go_round
        case rel => exact ⟨k + 1, by omega, by go_num, ST.out.symm⟩
        case measure => simp [intOf]; omega
    · obtain rfl : k = 8 := by omega
      have N : Hid (A = none) := hn.out.symm
      clear hn hlt
      go_wp2_with fail
      go_ret
      exact ⟨by rw [N.out]; rfl, B0.out⟩
theorem of_any (n : Nd) (va vk : Value) (w : World) (hT : KTabs w) (ha : AttrsV w va n.attrs) (hl : n.attrs.length ≤ 4398046511104) (hs : ∀ a ∈ n.attrs, a.2.size ≤ 140737488351232) :
    Calls Tryz.prog 23 #[.agg #[.string n.name, .string n.text, va, .int .i64 n.parent, vk]] w fun e w' => e = .returned (.int .i64 (kOf n.name (tyOf n.attrs))) ∧ Below w.heap.size w w' := by
  by_cases h0 : n.name = ⟨#[105, 110, 112, 117, 116]⟩
  · rw [show kOf n.name (tyOf n.attrs) = byT (tyOf n.attrs) 1 22 2 from by unfold kOf; rw [if_pos h0]]
    exact of_input n va vk w hT ha hl hs h0
  by_cases h1 : n.name = ⟨#[115, 101, 108, 101, 99, 116]⟩
  · rw [show kOf n.name (tyOf n.attrs) = 23 from by unfold kOf; rw [if_neg h0, if_pos h1]]
    exact of_select n va vk w h1
  by_cases h2 : n.name = ⟨#[116, 101, 120, 116, 97, 114, 101, 97]⟩
  · rw [show kOf n.name (tyOf n.attrs) = 24 from by unfold kOf; rw [if_neg h0, if_neg h1, if_pos h2]]
    exact of_textarea n va vk w h2
  by_cases h3 : n.name = ⟨#[98, 117, 116, 116, 111, 110]⟩
  · rw [show kOf n.name (tyOf n.attrs) = byT (tyOf n.attrs) 25 27 25 from by unfold kOf; rw [if_neg h0, if_neg h1, if_neg h2, if_pos h3]]
    exact of_button n va vk w hT ha hl hs h3
  rw [show kOf n.name (tyOf n.attrs) = lastI (seekL n.name 8 0) from by unfold kOf; rw [if_neg h0, if_neg h1, if_neg h2, if_neg h3]; rfl]
  exact of_last n va vk w hT h0 h1 h2 h3
end Go.Proofs.YtnojgejcmaajmaaGreatDoor

namespace Go.Proofs.YtnojgejcmaajmaaGreatDoor
open Go.RowKit
set_option maxRecDepth 100000
def smI (z : Int) : Bool := decide (97 ≤ z ∧ z ≤ 122)
set_option maxHeartbeats 1000000 in
theorem isSmall_any (z : Int) (w : World) :
    Calls Tryz.prog 222 #[.int .u8 z] w fun e w' => e = .returned (.bool (smI z)) ∧ w' = w := by
  by_cases a : 97 ≤ z
  · by_cases b : z ≤ 122
    · have E := hide (show smI z = true from decide_eq_true ⟨a, b⟩)
      go_enter Tryz.func222, Tryz.ntmps222
      go_wp2_with fail
      go_ret
      exact ⟨ret_bool E.out.symm, rfl⟩
    · have E := hide (show smI z = false from decide_eq_false (fun q => b q.2))
      have d : decide (z ≤ 122) = false := decide_eq_false b
      go_enter Tryz.func222, Tryz.ntmps222
      go_wp2_with fail
      go_ret
      exact ⟨ret_bool E.out.symm, rfl⟩
  · have E := hide (show smI z = false from decide_eq_false (fun q => a q.1))
    go_enter Tryz.func222, Tryz.ntmps222
    go_wp2_with fail
    go_ret
    exact ⟨ret_bool E.out.symm, rfl⟩
theorem name_short {s : ByteArray} (h : ¬ (0 < s.size ∧ s.size ≤ 20)) : nameOk s = false := by unfold nameOk; rw [decide_eq_false h]; rfl
set_option maxHeartbeats 2000000 in
theorem isName_any (s : ByteArray) (w : World) (hs : s.size ≤ maxLen) :
    Calls Tryz.prog 185 #[.string s] w fun e w' => e = .returned (.bool (nameOk s)) ∧ w' = w := by
  unfold maxLen at hs
  by_cases h1 : s.size < 1
  · have E := hide (name_short (s := s) (by omega))
    have i1 : (s.size : Int) < 1 := by omega
    clear h1
    go_enter Tryz.func185, Tryz.ntmps185
    go_wp2_with fail
    go_ret
    exact ⟨ret_bool E.out.symm, rfl⟩
  by_cases h2 : 20 < s.size
  · have E := hide (name_short (s := s) (by omega))
    have i1 : ¬ (s.size : Int) < 1 := by omega
    have i2 : (20 : Int) < (s.size : Int) := by omega
    clear h1 h2
    go_enter Tryz.func185, Tryz.ntmps185
    go_wp2_with fail
    go_ret
    exact ⟨ret_bool E.out.symm, rfl⟩
  have i1 : ¬ (s.size : Int) < 1 := by omega
  have i2 : ¬ (20 : Int) < (s.size : Int) := by omega
  have i3 : decide ((20 : Int) < (s.size : Int)) = false := decide_eq_false i2
  have p0 : 0 < s.size := by omega
  have i4 : (0 : Int) < (s.size : Int) := by omega
  have b0 : (0 : Int) ≤ (s[0].toNat : Int) := by omega
  have b1 : (s[0].toNat : Int) ≤ 255 := by have := s[0].toNat_lt; omega
  have HS0 := hide (fun w => isSmall_any (s[0].toNat : Int) w)
  have NO := hide (fun k hk h => name_no (s := s) (k := k) hk h)
  have END := hide (fun h => (name_end (s := s) h).trans (decide_eq_true ⟨p0, by omega⟩))
  cases q0 : smI (s[0].toNat : Int) with
  | false =>
    rw [q0] at HS0
    have E := hide (NO.out 0 p0 (nm_not (by unfold smI at q0; have := of_decide_eq_false q0; omega) (.inl rfl)))
    clear NO END q0
    go_enter Tryz.func185, Tryz.ntmps185
    go_wp2_with fail
    refine (HS0.out _).mono ?_
    rintro e w1 ⟨rfl, hw⟩
    obtain rfl : w = w1 := hw.symm
    go_wp2_with fail
    go_ret
    exact ⟨ret_bool E.out.symm, rfl⟩
  | true =>
    rw [q0] at HS0
    have SM0 : Hid (97 ≤ s[0].toNat ∧ s[0].toNat ≤ 122) := by unfold smI at q0; have := of_decide_eq_true q0; show _ ∧ _; omega
    clear q0
    go_enter Tryz.func185, Tryz.ntmps185
    go_wp2_with fail
    refine (HS0.out _).mono ?_
    rintro e w1 ⟨rfl, hw⟩
    obtain rfl : w = w1 := hw.symm
    go_wp2_with fail
    go_loop [21] (fun iv => ∃ k : Nat, k ≤ s.size ∧ iv = .int .i64 k ∧ Hid (∀ j (_ : j < s.size), j < k → nmAt j s[j] = true)) (fun iv => s.size - (intOf iv).toNat)
    case atStart => exact ⟨0, Nat.zero_le _, rfl, fun j _ h => by omega⟩
    case round =>
      obtain ⟨k, hk, rfl, hd⟩ := hrel
      clear HS0 b0 b1
      by_cases hlt : k < s.size
      · have hI : (k : Int) < (s.size : Int) := by omega
        have hI0 : (0 : Int) ≤ (k : Int) := by omega
        have NX : nmAt k s[k] = true → Hid (∀ j (_ : j < s.size), j < k + 1 → nmAt j s[j] = true) := by
          intro h j hj hjk
          rcases Nat.lt_or_ge j k with q | q
          · exact hd.out j hj q
          · obtain rfl : j = k := by omega
            exact h
        have K0 : Hid (k = 0 → 97 ≤ s[k].toNat ∧ s[k].toNat ≤ 122) := by intro q; subst q; exact SM0.out
        have BAD := hide (NO.out k hlt)
        have h255 : (s[k].toNat : Int) ≤ 255 := by have := s[k].toNat_lt; omega
        have h000 : (0 : Int) ≤ (s[k].toNat : Int) := by omega
        have HS := hide (fun w => isSmall_any (s[k].toNat : Int) w)
        have NX' := hide NX
        clear hd NO END NX SM0
        cases q : smI (s[k].toNat : Int) with
        | true =>
          rw [q] at HS
          have E := NX'.out (nm_small (by unfold smI at q; have := of_decide_eq_true q; omega))
          clear q NX' BAD K0
          go_wp2_with fail
          refine (HS.out _).mono ?_
          rintro e w1 ⟨rfl, hw⟩
          obtain rfl : w = w1 := hw.symm
          go_wp2_with fail
          go_round
          case rel => exact ⟨k + 1, by omega, by go_num, E⟩
          case measure => simp [intOf]; omega
        | false =>
          rw [q] at HS
          have q2 : ¬ (97 ≤ s[k].toNat ∧ s[k].toNat ≤ 122) := by unfold smI at q; have := of_decide_eq_false q; omega
          have k0 : ¬ k = 0 := fun r => q2 (K0.out r)
          have Q2 := hide q2
          have K1 := hide k0
          clear q q2 k0 K0
          rcases (show s[k].toNat < 48 ∨ (48 ≤ s[k].toNat ∧ s[k].toNat ≤ 57) ∨ 57 < s[k].toNat by omega) with r | r | r
          · have d48 : decide ((48 : Int) ≤ (s[k].toNat : Int)) = false := decide_eq_false (by omega)
            by_cases e45 : s[k].toNat = 45
            · have d45 : ((s[k].toNat : Int) != 45) = false := by rw [e45]; rfl
              have d45' : ((s[k].toNat : Int) == 45) = true := by rw [e45]; rfl
              have E := NX'.out (nm_other K1.out (by omega))
              clear NX' BAD e45 r
              go_wp2_with fail
              refine (HS.out _).mono ?_
              rintro e w1 ⟨rfl, hw⟩
              obtain rfl : w = w1 := hw.symm
              go_wp2_with fail
              go_round
              case rel => exact ⟨k + 1, by omega, by go_num, E⟩
              case measure => simp [intOf]; omega
            · have d45 : ((s[k].toNat : Int) != 45) = true := by rw [bne_iff_ne]; omega
              have d45' : ((s[k].toNat : Int) == 45) = false := by rw [beq_eq_false_iff_ne]; omega
              have E := hide (BAD.out (nm_not Q2.out (.inr (by omega))))
              clear NX' BAD e45 r
              go_wp2_with fail
              refine (HS.out _).mono ?_
              rintro e w1 ⟨rfl, hw⟩
              obtain rfl : w = w1 := hw.symm
              go_wp2_with fail
              go_ret
              exact ⟨ret_bool E.out.symm, rfl⟩
          · have d48 : (48 : Int) ≤ (s[k].toNat : Int) := by omega
            have d57 : (s[k].toNat : Int) ≤ 57 := by omega
            have E := NX'.out (nm_other K1.out (by omega))
            clear NX' BAD r
            go_wp2_with fail
            refine (HS.out _).mono ?_
            rintro e w1 ⟨rfl, hw⟩
            obtain rfl : w = w1 := hw.symm
            go_wp2_with fail
            go_round
            case rel => exact ⟨k + 1, by omega, by go_num, E⟩
            case measure => simp [intOf]; omega
          · have d48 : (48 : Int) ≤ (s[k].toNat : Int) := by omega
            have d57 : decide ((s[k].toNat : Int) ≤ 57) = false := decide_eq_false (by omega)
            have d45 : ((s[k].toNat : Int) != 45) = true := by rw [bne_iff_ne]; omega
            have d45' : ((s[k].toNat : Int) == 45) = false := by rw [beq_eq_false_iff_ne]; omega
            have E := hide (BAD.out (nm_not Q2.out (.inr (by omega))))
            clear NX' BAD r
            go_wp2_with fail
            refine (HS.out _).mono ?_
            rintro e w1 ⟨rfl, hw⟩
            obtain rfl : w = w1 := hw.symm
            go_wp2_with fail
            go_ret
            exact ⟨ret_bool E.out.symm, rfl⟩
      · obtain rfl : k = s.size := by omega
        have E := hide (END.out (fun j hj => hd.out j hj hj))
        clear NO END hd SM0 hlt
        go_wp2_with fail
        go_ret
        exact ⟨ret_bool E.out.symm, rfl⟩
theorem noName_true {n : ByteArray} (h : noName n = true) : n = ⟨#[]⟩ := by
  unfold noName at h
  have h : n.size = 0 := beq_iff_eq.1 h
  have h2 : n.data.size = 0 := h
  cases n with
  | mk d =>
    have h2 : d.size = 0 := h2
    obtain rfl : d = #[] := Array.eq_empty_of_size_eq_zero h2
    rfl
theorem noName_false {n : ByteArray} (h : noName n = false) : ¬ n.toList = [] := by
  rw [ByteArray.toList_eq]
  intro q
  have : n.data = #[] := by cases hd : n.data with | mk d => rw [hd] at q; have q : d = [] := q; rw [q]
  have h2 : n.size = 0 := by show n.data.size = 0; rw [this]; rfl
  unfold noName at h
  rw [h2] at h
  cases h
set_option maxHeartbeats 1000000 in
theorem isText_any (a0 a1 : ByteArray) (va : Value) (p : Int) (vk : Value) (w : World) :
    Calls Tryz.prog 135 #[.agg #[.string a0, .string a1, va, .int .i64 p, vk]] w fun e w' => e = .returned (.bool (noName a0)) ∧ Below w.heap.size w w' := by
  cases q : noName a0 with
  | true =>
    obtain rfl := noName_true q
    go_enter Tryz.func135, Tryz.ntmps135
    go_wp2_with fail
    go_ret
    exact ⟨rfl, (Below.refl _ w).alloc (Nat.le_refl _) _⟩
  | false =>
    have e1 := noName_false q
    have e2 : a0.toList.isEmpty = false := by cases h : a0.toList with
      | nil => exact absurd h e1
      | cons => rfl
    have e3 : (a0.toList == []) = false := by rw [beq_eq_false_iff_ne]; exact e1
    clear q
    go_enter Tryz.func135, Tryz.ntmps135
    go_wp2_with fail
    go_ret
    exact ⟨rfl, (Below.refl _ w).alloc (Nat.le_refl _) _⟩
end Go.Proofs.YtnojgejcmaajmaaGreatDoor

namespace Go.Proofs.YtnojgejcmaajmaaGreatDoor
open Go.RowKit
def attrsB (ax : List (ByteArray × ByteArray)) : Bool := decide (ax.length ≤ 40) && (List.range ax.length).all (attrOk ax)
theorem attrs_long {ax : List (ByteArray × ByteArray)} (h : 40 < ax.length) : attrsB ax = false := by unfold attrsB; rw [decide_eq_false (by omega)]; rfl
theorem attrs_bad {ax : List (ByteArray × ByteArray)} {k : Nat} (hk : k < ax.length) (h : attrOk ax k = false) : attrsB ax = false := by
  unfold attrsB
  have : (List.range ax.length).all (attrOk ax) = false := by
    rw [List.all_eq_false]
    exact ⟨k, List.mem_range.2 hk, by rw [h]; decide⟩
  rw [this, Bool.and_false]
theorem attrs_good {ax : List (ByteArray × ByteArray)} (h0 : ax.length ≤ 40) (h : ∀ k, k < ax.length → attrOk ax k = true) : attrsB ax = true := by
  unfold attrsB
  rw [decide_eq_true h0, Bool.true_and, List.all_eq_true]
  exact fun k hk => h k (List.mem_range.1 hk)
theorem take_idx {ax : List (ByteArray × ByteArray)} {k : Nat} (hk : k < ax.length) : (findA ax ax[k].1 == some k) = !((ax.take k).findIdx? (isN ax[k].1)).isSome := by
  by_cases h : ∀ j (hj : j < k), ¬ ax[j].1 = ax[k].1
  · rw [(find_first hk).2 h]
    have : (ax.take k).findIdx? (isN ax[k].1) = none := by
      rw [List.findIdx?_eq_none_iff]
      intro x hx
      obtain ⟨j, hj, rfl⟩ := List.getElem_of_mem hx
      rw [List.length_take] at hj
      rw [List.getElem_take]
      exact decide_eq_false (h j (by omega))
    rw [this]; simp
  · have h1 : (findA ax ax[k].1 == some k) = false := by
      rw [beq_eq_false_iff_ne]
      exact fun q => h ((find_first hk).1 q)
    rw [h1]
    have : ((ax.take k).findIdx? (isN ax[k].1)).isSome = true := by
      rw [List.findIdx?_isSome, List.any_eq_true]
      have ⟨j, hj⟩ : ∃ j, ∃ hj : j < k, ax[j].1 = ax[k].1 := by
        refine Classical.byContradiction fun q => h fun j hj e => q ⟨j, hj, e⟩
      obtain ⟨hj, e⟩ := hj
      exact ⟨ax[j], List.mem_take_iff_getElem.2 ⟨j, by omega, rfl⟩, decide_eq_true e⟩
    rw [this]; rfl
theorem attrOk_tk {ax : List (ByteArray × ByteArray)} {k : Nat} (hk : k < ax.length) : attrOk ax k = (nameOk ax[k].1 && (decide (ax[k].2.size ≤ 4000) && !((ax.take k).findIdx? (isN ax[k].1)).isSome)) := by
  unfold attrOk
  have : ax.getD k at0 = ax[k] := by simp [List.getD, hk]
  rw [this, take_idx hk]
theorem AttrsV.take {w : World} {p : Option Addr} {c : Nat} {ax : List (ByteArray × ByteArray)} (h : AttrsV w (.slice p ax.length c) ax) {k : Nat} (hk : k ≤ ax.length) (c' : Nat) : AttrsV w (.slice p k c') (ax.take k) := by
  obtain ⟨p', c2, e, h⟩ := h
  cases e
  refine ⟨p, c', by rw [List.length_take, Nat.min_eq_left hk], ?_⟩
  rcases h with h | ⟨b, o, rfl, h⟩
  · exact .inl (by rw [h, List.take_nil])
  · refine .inr ⟨b, o, rfl, fun i hi => ?_⟩
    rw [List.length_take] at hi
    rw [List.getElem_take]
    exact h i (by omega)
set_option maxHeartbeats 4000000 in
set_option maxRecDepth 100000 in
theorem areAttrs_any (p : Option Addr) (c : Nat) (ax : List (ByteArray × ByteArray)) (w : World) (hv : AttrsV w (.slice p ax.length c) ax) (hl : ax.length ≤ 4398046511104) (hc : ax.length ≤ c) (hs : ∀ a ∈ ax, a.1.size ≤ maxLen ∧ a.2.size ≤ maxLen) :
    Calls Tryz.prog 186 #[.slice p ax.length c] w fun e w' => e = .returned (.bool (attrsB ax)) ∧ Below w.heap.size w w' := by
  by_cases h40 : 40 < ax.length
  · have E := hide (attrs_long h40)
    have i1 : (40 : Int) < (ax.length : Int) := by omega
    clear hv hs h40
    go_enter Tryz.func186, Tryz.ntmps186
    go_wp2_with fail
    go_ret
    exact ⟨ret_bool E.out.symm, Below.refl _ _⟩
  have i40 : ¬ (40 : Int) < (ax.length : Int) := by omega
  have n40 : ax.length ≤ 40 := by omega
  have BAD := hide (fun k hk h => attrs_bad (ax := ax) (k := k) hk h)
  have GOOD := hide (fun h => attrs_good (ax := ax) n40 h)
  have HV := hide hv
  have HS := hide hs
  clear hv hs h40
  generalize attrsB ax = R at *
  go_enter Tryz.func186, Tryz.ntmps186
  go_wp2_with fail
  go_loopw [10] (fun iv wr => ∃ k : Nat, k ≤ ax.length ∧ iv = .int .i64 k ∧ Hid (∀ j, j < k → attrOk ax j = true) ∧ Hid (Below w.heap.size w wr)) (fun iv _ => ax.length - (intOf iv).toNat)
  case atStart => exact ⟨0, Nat.zero_le _, rfl, fun j q => by omega, Below.refl _ _⟩
  case round =>
    rename World => wr
    obtain ⟨k, hk, rfl, hd, BW⟩ := hrel
    by_cases h : k < ax.length
    · have i1 : (k : Int) < (ax.length : Int) := by omega
      have i0 : (0 : Int) ≤ (k : Int) := by omega
      have i2 : (k : Int) ≤ (c : Int) := by omega
      obtain ⟨b, o, rfl, hcell⟩ : ∃ b o, p = some ⟨b, o, none⟩ ∧ ∀ i (h : i < ax.length), w.cell? ⟨b, o + i * 2, none⟩ = some (.string ax[i].1) ∧ w.cell? ⟨b, o + i * 2 + 1, none⟩ = some (.string ax[i].2) := by
        obtain ⟨p', c', e, hv⟩ := HV.out
        cases e
        rcases hv with hv | hv
        · rw [hv] at h; simp at h
        · exact hv
      have c0 := cell_below (hcell k h).1 BW.out
      have c1 := cell_below (hcell k h).2 BW.out
      have OK := hide (attrOk_tk h)
      have Z := HS.out ax[k] (List.getElem_mem _)
      have z1 := Z.1
      have z2 := Z.2
      have BK := hide (BAD.out k h)
      have NX := hide (fun q : attrOk ax k = true => (fun j (r : j < k + 1) => by
        rcases Nat.lt_or_ge j k with t | t
        · exact hd.out j t
        · obtain rfl : j = k := by omega
          exact q : ∀ j, j < k + 1 → attrOk ax j = true))
      have HT : Hid (AttrsV w (.slice (some ⟨b, o, none⟩) k c) (ax.take k)) := HV.out.take hk c
      have tl : (ax.take k).length ≤ 4398046511104 := by rw [List.length_take]; omega
      have TL := hide tl
      clear hcell Z HV HS BAD GOOD hd tl
      generalize ax.take k = tk at *
      obtain ⟨n, hn⟩ : ∃ n, Hid (ax[k].1 = n) := ⟨ax[k].1, show _ = _ from rfl⟩
      obtain ⟨u, hu⟩ : ∃ u, Hid (ax[k].2 = u) := ⟨ax[k].2, show _ = _ from rfl⟩
      rw [hn.out] at c0 OK z1
      rw [hu.out] at c1 OK z2
      have HN := hide (fun w => isName_any n w z1)
      clear hn hu z1
      unfold maxLen at z2
      have bn : b < wr.heap.size := World.block_lt_of_cell? _ _ c0
      have bn2 : b ≠ wr.heap.size := by omega
      cases q1 : nameOk n with
      | false =>
        rw [q1] at HN OK
        have E := hide (BK.out (by rw [OK.out]; rfl))
        clear OK BK NX q1 HT
        go_wp2_with fail
        generalize hw1 : wr.alloc (.cells #[.string n, .string u] 131) = w1
        have N1 : Hid (NB w1 wr.heap.size [.string n, .string u] 131) := by rw [← hw1]; exact NB.new wr _ _
        have b1 : Hid (Below w.heap.size w w1) := by rw [← hw1]; exact chain BW.out ((Below.refl _ wr).alloc (Nat.le_refl _) _)
        have d0 := N1.out.cell 0 rfl
        have d1 := N1.out.cell 1 rfl
        clear hw1
        go_quiet (exact Calls.quiet_of_same (HN.out _))
        go_wp2_with fail
        go_ret
        exact ⟨ret_bool E.out.symm, bel_drewN b1.out _⟩
      | true =>
        rw [q1, Bool.true_and] at OK
        rw [q1] at HN
        clear q1
        by_cases q2 : u.size ≤ 4000
        · rw [decide_eq_true q2, Bool.true_and] at OK
          have j1 : ¬ (4000 : Int) < (u.size : Int) := by omega
          have j2 : decide ((4000 : Int) < (u.size : Int)) = false := decide_eq_false j1
          go_wp2_with fail
          generalize hw1 : wr.alloc (.cells #[.string n, .string u] 131) = w1
          have N1 : Hid (NB w1 wr.heap.size [.string n, .string u] 131) := by rw [← hw1]; exact NB.new wr _ _
          have b1 : Hid (Below w.heap.size w w1) := by rw [← hw1]; exact chain BW.out ((Below.refl _ wr).alloc (Nat.le_refl _) _)
          have d0 := N1.out.cell 0 rfl
          have d1 := N1.out.cell 1 rfl
          have ln := N1.out.lt
          have ne : wr.heap.size ≠ w1.heap.size := by omega
          have AB : Hid (∀ m, Below w1.heap.size w1 ((w1.alloc (.cells #[.string n] 9)).drewN m)) := fun m => bel_drewN ((Below.refl _ w1).alloc (Nat.le_refl _) _) m
          have HCF := hide (fun m => containsFuncA_any (.slice (some ⟨b, o, none⟩) k c) tk (isN n) 246 #[.pointer (some ⟨w1.heap.size, 0, none⟩)] entersCalled ((w1.alloc (.cells #[.string n] 9)).drewN m) (HT.out.below (chain b1.out (AB.out m))) ((called_pred n w1).later (bel_drewN (Below.refl _ _) m)) TL.out)
          clear hw1 c0 c1 HT
          generalize (tk.findIdx? (isN n)).isSome = r at *
          go_region_held3 (fun w' => w'.cell? ⟨wr.heap.size, 0, none⟩ = some (.string n) ∧ w'.cell? ⟨wr.heap.size, 1, none⟩ = some (.string u)) (first | go_keep | exact ⟨cell_below d0 (chain (AB.out 1) bb), cell_below d1 (chain (AB.out 1) bb)⟩)
            (first | (go_at_call 185; refine (HN.out _).mono ?_; rintro e w' ⟨rfl, rfl⟩) | (go_at_call 223; refine (called_any n _).mono ?_; rintro e w' ⟨rfl, rfl⟩) | (go_at_call 177; refine (HCF.out 1).mono ?_; rintro e w2 ⟨rfl, bb⟩))
          have b2 : Hid (Below w.heap.size w w2) := chain b1.out (chain (AB.out 1) bb)
          cases r with
          | true =>
            have E := hide (BK.out (by rw [OK.out]; rfl))
            clear OK BK NX
            go_wp2_with fail
            go_ret
            exact ⟨ret_bool E.out.symm, b2.out⟩
          | false =>
            have E := hide (NX.out (by rw [OK.out]; rfl))
            clear OK BK NX
            go_wp2_with fail
            go_roundw
            case rel => exact ⟨k + 1, by omega, by go_num, E, b2⟩
            case measure => simp [intOf]; omega
        · rw [decide_eq_false q2, Bool.false_and] at OK
          have E := hide (BK.out OK.out)
          have j1 : (4000 : Int) < (u.size : Int) := by omega
          have j2 : decide ((4000 : Int) < (u.size : Int)) = true := decide_eq_true j1
          clear OK BK NX q2 HT
          go_wp2_with fail
          generalize hw1 : wr.alloc (.cells #[.string n, .string u] 131) = w1
          have N1 : Hid (NB w1 wr.heap.size [.string n, .string u] 131) := by rw [← hw1]; exact NB.new wr _ _
          have b1 : Hid (Below w.heap.size w w1) := by rw [← hw1]; exact chain BW.out ((Below.refl _ wr).alloc (Nat.le_refl _) _)
          have d0 := N1.out.cell 0 rfl
          have d1 := N1.out.cell 1 rfl
          clear hw1
          go_quiet (exact Calls.quiet_of_same (HN.out _))
          go_wp2_with fail
          go_ret
          exact ⟨ret_bool E.out.symm, bel_drewN b1.out _⟩
    · obtain rfl : k = ax.length := by omega
      have E := hide (GOOD.out (fun j hj => hd.out j hj))
      clear BAD GOOD hd HV HS h
      go_wp2_with fail
      go_ret
      exact ⟨ret_bool E.out.symm, BW.out⟩
end Go.Proofs.YtnojgejcmaajmaaGreatDoor

namespace Go.Proofs.YtnojgejcmaajmaaGreatDoor
open Go.RowKit
set_option maxRecDepth 100000
theorem alone_tx {n : Nd} (h : noName n.name = true) : aloneB n = (n.attrs.isEmpty && (n.kids.isEmpty && decide (n.text.size ≤ 4000))) := by
  unfold aloneB
  have : n.name.size = 0 := by unfold noName at h; exact beq_iff_eq.1 h
  rw [if_pos this]
theorem alone_elem {n : Nd} (h : noName n.name = false) : aloneB n = (nameOk n.name && (n.text.size == 0 && attrsB n.attrs)) := by
  unfold aloneB attrsB
  have : ¬ n.name.size = 0 := by unfold noName at h; rw [beq_eq_false_iff_ne] at h; exact h
  rw [if_neg this]
theorem len_nil {α : Type} (l : List α) : ((l.length : Int) == 0) = l.isEmpty := by
  cases l with
  | nil => rfl
  | cons a t => show (((t.length + 1 : Nat) : Int) == 0) = false; rw [beq_eq_false_iff_ne]; omega
theorem noName_list (n : ByteArray) : (n.toList == []) = noName n := by
  cases q : noName n with
  | true => rw [noName_true q, ByteArray.toList_eq]; rfl
  | false => rw [beq_eq_false_iff_ne]; exact noName_false q
set_option maxHeartbeats 2000000 in
theorem isFormed_any (b o : Nat) (n : Nd) (va vk : Value) (w : World) (hn : NodeAt w b o n va vk) (hz : NdSz n) :
    Calls Tryz.prog 136 #[.pointer (some ⟨b, o, none⟩)] w fun e w' => e = .returned (.bool (aloneB n)) ∧ Below w.heap.size w w' := by
  have c0 := hn.name
  have c1 := hn.text
  have c2 := hn.attrs
  have c3 := hn.parent
  have c4 := hn.kids
  have z0 := hz.name
  have z1 := hz.text
  have HT := hide (fun w => isText_any n.name n.text va n.parent vk w)
  obtain ⟨pa, ca, ea, ha⟩ := hn.at_
  obtain ⟨pk, ck, ek, hk⟩ := hn.ks
  have hcap := hn.cap _ _ _ ea
  subst ea ek
  have za := hz.attrs
  have zk := hz.kids
  have HA := hide (fun W (hb : Below w.heap.size w W) => areAttrs_any pa ca n.attrs W (hn.at_.below hb) hz.attrs hcap hz.attr)
  have HN := hide (fun W => isName_any n.name W hz.name)
  unfold maxLen at z0 z1
  have CB : Hid (∀ W, Below w.heap.size w W → NodeAt W b o n _ _) := fun W hb => hn.below hb
  have LA := hide (len_nil n.attrs)
  have LK := hide (len_nil n.kids)
  have AT := hide (fun h => alone_tx (n := n) h)
  have AE := hide (fun h => alone_elem (n := n) h)
  clear ha hk hn hz hcap
  cases q : noName n.name with
  | true =>
    have E := AT.out q
    rw [q] at HT
    have EE := hide E
    clear E AT AE HN HA
    by_cases r1 : n.text.size ≤ 4000
    · rw [decide_eq_true r1, Bool.and_true] at EE
      have i1 : (n.text.size : Int) ≤ 4000 := by omega
      have i2 : decide ((n.text.size : Int) ≤ 4000) = true := decide_eq_true i1
      cases r2 : n.attrs.isEmpty with
      | true =>
        rw [r2] at EE LA
        have la := LA.out
        cases r3 : n.kids.isEmpty with
        | true =>
          rw [r3] at EE LK
          have lk := LK.out
          clear r2 r3 LA LK
          go_enter Tryz.func136, Tryz.ntmps136
          go_wp2_with fail
          refine (HT.out _).mono ?_
          rintro e w1 ⟨rfl, b1⟩
          have C := CB.out w1 b1
          have c0 := C.name
          have c1 := C.text
          have c2 := C.attrs
          have c4 := C.kids
          clear C CB
          go_wp2_with fail
          go_ret
          exact ⟨ret_bool EE.out.symm, b1⟩
        | false =>
          rw [r3] at EE LK
          have lk := LK.out
          clear r2 r3 LA LK
          go_enter Tryz.func136, Tryz.ntmps136
          go_wp2_with fail
          refine (HT.out _).mono ?_
          rintro e w1 ⟨rfl, b1⟩
          have C := CB.out w1 b1
          have c0 := C.name
          have c1 := C.text
          have c2 := C.attrs
          have c4 := C.kids
          clear C CB
          go_wp2_with fail
          go_ret
          exact ⟨ret_bool EE.out.symm, b1⟩
      | false =>
        rw [r2, Bool.false_and] at EE
        rw [r2] at LA
        have la := LA.out
        clear r2 LA LK
        go_enter Tryz.func136, Tryz.ntmps136
        go_wp2_with fail
        refine (HT.out _).mono ?_
        rintro e w1 ⟨rfl, b1⟩
        have C := CB.out w1 b1
        have c0 := C.name
        have c1 := C.text
        have c2 := C.attrs
        have c4 := C.kids
        clear C CB
        go_wp2_with fail
        go_ret
        exact ⟨ret_bool EE.out.symm, b1⟩
    · rw [decide_eq_false r1, Bool.and_false, Bool.and_false] at EE
      have i1 : ¬ (n.text.size : Int) ≤ 4000 := by omega
      have i2 : decide ((n.text.size : Int) ≤ 4000) = false := decide_eq_false i1
      clear r1 LA LK
      go_enter Tryz.func136, Tryz.ntmps136
      go_wp2_with fail
      refine (HT.out _).mono ?_
      rintro e w1 ⟨rfl, b1⟩
      have C := CB.out w1 b1
      have c0 := C.name
      have c1 := C.text
      have c2 := C.attrs
      have c4 := C.kids
      clear C CB
      go_wp2_with fail
      go_ret
      exact ⟨ret_bool EE.out.symm, b1⟩
  | false =>
    have EE := hide (AE.out q)
    rw [q] at HT
    clear AT AE LA LK
    cases r1 : nameOk n.name with
    | false =>
      rw [r1, Bool.false_and] at EE
      rw [r1] at HN
      clear r1 HA
      go_enter Tryz.func136, Tryz.ntmps136
      go_wp2_with fail
      refine (HT.out _).mono ?_
      rintro e w1 ⟨rfl, b1⟩
      have C := CB.out w1 b1
      have c0 := C.name
      have c1 := C.text
      have c2 := C.attrs
      have c4 := C.kids
      clear C CB
      go_wp2_with fail
      refine (HN.out _).mono ?_
      rintro e w2 ⟨rfl, hw⟩
      obtain rfl : w1 = w2 := hw.symm
      go_wp2_with fail
      go_ret
      exact ⟨ret_bool EE.out.symm, b1⟩
    | true =>
      rw [r1, Bool.true_and] at EE
      rw [r1] at HN
      clear r1
      have T1 := hide (noName_list n.text)
      cases r2 : noName n.text with
      | false =>
        have e5 : (n.text.size == 0) = false := r2
        rw [e5, Bool.false_and] at EE
        have e1 := noName_false r2
        have e2 : n.text.toList.isEmpty = false := by cases h : n.text.toList with
          | nil => exact absurd h e1
          | cons => rfl
        rw [r2] at T1
        have e3 := T1.out
        clear r2 e5 T1 HA
        go_enter Tryz.func136, Tryz.ntmps136
        go_wp2_with fail
        refine (HT.out _).mono ?_
        rintro e w1 ⟨rfl, b1⟩
        have C := CB.out w1 b1
        have c0 := C.name
        have c1 := C.text
        have c2 := C.attrs
        have c4 := C.kids
        clear C CB
        go_wp2_with fail
        refine (HN.out _).mono ?_
        rintro e w2 ⟨rfl, hw⟩
        obtain rfl : w1 = w2 := hw.symm
        go_wp2_with fail
        go_ret
        exact ⟨ret_bool EE.out.symm, b1⟩
      | true =>
        have e5 : (n.text.size == 0) = true := r2
        rw [e5, Bool.true_and] at EE
        have et := noName_true r2
        rw [et] at c1 HT
        have ET := hide et
        clear r2 e5 T1 et z1
        go_enter Tryz.func136, Tryz.ntmps136
        go_wp2_with fail
        refine (HT.out _).mono ?_
        rintro e w1 ⟨rfl, b1⟩
        have C := CB.out w1 b1
        have c0 := C.name
        have c1 := C.text
        rw [ET.out] at c1
        have c2 := C.attrs
        have c4 := C.kids
        clear C CB
        go_wp2_with fail
        refine (HN.out _).mono ?_
        rintro e w2 ⟨rfl, hw⟩
        obtain rfl : w1 = w2 := hw.symm
        go_wp2_with fail
        refine (HA.out _ b1).mono ?_
        rintro e w3 ⟨rfl, b3⟩
        go_wp2_with fail
        go_ret
        exact ⟨ret_bool EE.out.symm, chain b1 b3⟩
end Go.Proofs.YtnojgejcmaajmaaGreatDoor

namespace Go.Proofs.YtnojgejcmaajmaaGreatDoor
open Go.RowKit
theorem kidsI_at {l : List Nd} {m : Nat} (h : m < l.length) : kidsI l (m : Int) = l[m].kids := by unfold kidsI; rw [Int.toNat_natCast, nd_at h]
set_option maxHeartbeats 4000000 in
set_option maxRecDepth 100000 in
theorem down_any (w0 : World) (v : Value) (l : List Nd) (hv : NodesV w0 v l) : ∀ (f : Nat) (k : Int) (xs : List Int) (lv : Value) (w : World), Below w0.heap.size w0 w → KidsO w0.heap.size w lv xs → Sub l f k → xs.length + (downF l f k).length ≤ 17592186044416 →
    Calls Tryz.prog 176 #[lv, v, .int .i64 k] w fun e w' => ∃ v', e = .returned v' ∧ KidsO w0.heap.size w' v' (xs ++ downF l f k) ∧ Below w0.heap.size w0 w' := by
  intro f
  induction f with
  | zero => intro k xs lv w _ _ h _; exact h.elim
  | succ f ih =>
    intro k xs lv w hb hown hs hsz
    obtain ⟨m, rfl⟩ : ∃ m : Nat, k = (m : Int) := ⟨k.toNat, by have := hs.1.1; omega⟩
    have hm : m < l.length := by have := hs.1.2; omega
    have IH := hide ih
    have KD := hide hs.2
    rw [kidsI_at hm] at KD
    have e1 : downF l (f + 1) (m : Int) = (m : Int) :: l[m].kids.flatMap (downF l f) := by show _ :: (kidsI l (m : Int)).flatMap _ = _; rw [kidsI_at hm]
    rw [e1] at hsz ⊢
    rw [List.length_cons] at hsz
    clear ih hs e1
    obtain ⟨p, c, rfl, hv⟩ := hv
    rcases hv with hv | ⟨b, o, rfl, hv⟩
    · rw [hv] at hm; simp at hm
    obtain ⟨va, vk, N0⟩ := hv m hm
    have NW : Hid (∀ W, Below w0.heap.size w0 W → NodeAt W b (o + m * 5) l[m] va vk) := fun W hW => N0.below hW
    obtain ⟨pk, ck, rfl, hk⟩ := N0.ks
    have HK := hide hk
    have i0 : (0 : Int) ≤ (m : Int) := by omega
    have i1 : (m : Int) < (l.length : Int) := by omega
    obtain ⟨iI, hI0, hI1, hI2, hI3⟩ := info_parts infoI
    generalize hB : w0.heap.size = B at *
    have Bw : B ≤ w.heap.size := by have := hb.size; omega
    have OW := hide (World.ownsRow.alloc hown (.cells #[.int .i64 (m : Int)] 3))
    have RW := hide ((NB.new w [.int .i64 (m : Int)] 3).raw 1 1 rfl 1)
    have SZ := hide hsz
    have HB := hide hb
    have h1 : xs.length + 1 ≤ 17592186044416 := by omega
    have hBa : Hid (B ≤ (w.alloc (.cells #[.int .i64 (m : Int)] 3)).heap.size) := by show _ ≤ _; simp; omega
    have ksz : l[m].kids.length ≤ 17592186044416 := by
      have F : ∀ L : List Int, (∀ x ∈ L, Sub l f x) → L.length ≤ (L.flatMap (downF l f)).length := by
        intro L
        induction L with
        | nil => intro _; exact Nat.zero_le _
        | cons a t iht =>
          intro hL
          rw [List.flatMap_cons, List.length_append, List.length_cons]
          have := iht (fun x hx => hL x (List.mem_cons_of_mem _ hx))
          have := List.length_pos_of_mem (down_self (hL a (List.mem_cons_self ..)))
          omega
      have := F l[m].kids KD.out
      omega
    clear hv N0 hk hown hb hsz
    go_enter Tryz.func176, Tryz.ntmps176
    go_wp2_with (at_builtin; refine wpList_append_raw rfl _ _ _ rfl B 3 iI _ 1 8 Tryz.underlying55 hI0 hI1 hI2 hI3 rfl (by omega) _ xs.length (cellsI xs) rfl OW.out _ 1 _ rfl RW.out (by simp [Value.oneCell']) (by unfold maxLen; omega) (by omega) hBa.out ?_; intro q1 c1 w1 own1 gr1 at1; have B1 : Hid (Below B w0 w1) := HB.out.trans (((Chg.alloc w _).nil.trans (Chg.of_grown gr1)).below Bw (fun k hk => (OW.out.lt k (opt_mem.1 hk)).1)); have a4 := (NW.out w1 B1.out).kids)
    have K1 : Hid (KidsO B w1 (.slice q1 (xs.length + 1) c1) (xs ++ [(m : Int)])) := by
      have := own1
      show w1.ownsRow B _ 1 _ (xs ++ [(m : Int)]).length (cellsI (xs ++ [(m : Int)]))
      rw [List.length_append, cellsI_app]
      exact own1
    clear own1 gr1 at1 OW RW hBa HB
    go_loopw [0, 19] (fun sv iv wr => ∃ j : Nat, j ≤ l[m].kids.length ∧ iv = .int .i64 j ∧ Hid (KidsO B wr sv (xs ++ (m : Int) :: (l[m].kids.take j).flatMap (downF l f))) ∧ Hid (Below B w0 wr)) (fun _ iv _ => l[m].kids.length - (intOf iv).toNat)
    case atStart => exact ⟨0, Nat.zero_le _, rfl, by show KidsO _ _ _ _; rw [List.take_zero]; exact K1.out, B1.out⟩
    case round =>
      rename World => wr
      obtain ⟨j, hj, rfl, KO, BW⟩ := hrel
      clear a4 K1 B1
      by_cases h : j < l[m].kids.length
      · have j1 : (j : Int) < (l[m].kids.length : Int) := by omega
        have j0 : (0 : Int) ≤ (j : Int) := by omega
        obtain ⟨bk, ok, rfl, hk⟩ : ∃ bk ok, pk = some ⟨bk, ok, none⟩ ∧ ∀ i (h : i < l[m].kids.length), w0.cell? ⟨bk, ok + i, none⟩ = some (.int .i64 l[m].kids[i]) := by
          rcases HK.out with q | q
          · rw [q] at h; simp at h
          · exact q
        have a5 := cell_below (hk j h) (by rw [hB]; exact BW.out)
        have SK := KD.out l[m].kids[j] (List.getElem_mem _)
        have e2 : l[m].kids.take (j + 1) = l[m].kids.take j ++ [l[m].kids[j]] := List.take_succ_eq_append_getElem h
        have e3 : (l[m].kids.take (j + 1)).flatMap (downF l f) = (l[m].kids.take j).flatMap (downF l f) ++ downF l f l[m].kids[j] := by rw [e2, List.flatMap_append, List.flatMap_singleton]
        have L1 : ((l[m].kids.take (j + 1)).flatMap (downF l f)).length ≤ (l[m].kids.flatMap (downF l f)).length := by
          have : l[m].kids = l[m].kids.take (j + 1) ++ l[m].kids.drop (j + 1) := (List.take_append_drop _ _).symm
          have e4 := congrArg (fun L => (L.flatMap (downF l f)).length) this
          simp only [List.flatMap_append, List.length_append] at e4
          omega
        have HC := IH.out l[m].kids[j] _ _ wr BW.out KO.out SK (by
          rw [e3, List.length_append] at L1
          rw [List.length_append, List.length_cons]
          have := SZ.out
          omega)
        rw [List.append_assoc, List.cons_append, ← e3] at HC
        have HC := hide HC
        clear hk SK e2 e3 L1 KO
        generalize l[m].kids[j] = kc at *
        go_wp2_with fail
        refine HC.out.mono ?_
        rintro e w2 ⟨v2, rfl, k2, b2⟩
        go_wp2_with fail
        go_roundw
        case rel => exact ⟨j + 1, by omega, by go_num, k2, b2⟩
        case measure => simp [intOf]; omega
      · obtain rfl : j = l[m].kids.length := by omega
        go_wp2_with fail
        go_ret
        refine ⟨_, rfl, ?_, BW.out⟩
        have := KO.out
        rw [List.take_length] at this
        exact this

end Go.Proofs.YtnojgejcmaajmaaGreatDoor
