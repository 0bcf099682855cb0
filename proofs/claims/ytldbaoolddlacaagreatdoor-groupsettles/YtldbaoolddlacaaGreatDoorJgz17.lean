/- Attributes that are set, or taken away. The program's called and what it answers. The program's Of of layer 11. The program's areAttrs, isFormed of layer 10. -/
import Derived.Test.YtldbaoolddlacaaGreatDoorJgz16
import Derived.Deep.RegionHeld3
import Derived.Deep.RegionWith
import Derived.BigRegion

namespace Go.Proofs.YtldbaoolddlacaaGreatDoor
open Go.RowKit
theorem alone_attrs {n : Nd} (h : aloneB n = true) (hn : ¬ n.name.size = 0) : n.attrs.length ≤ 40 ∧ AttrsOk n.attrs := by
  unfold aloneB at h
  rw [if_neg hn, Bool.and_eq_true, Bool.and_eq_true, Bool.and_eq_true, decide_eq_true_eq] at h
  exact ⟨h.2.2.1, (attrs_is _).1 h.2.2.2⟩
theorem find_some {ax : List (ByteArray × ByteArray)} {n : ByteArray} {k : Nat} (h : findA ax n = some k) : ∃ hk : k < ax.length, ax[k].1 = n ∧ ∀ j (hj : j < k), ¬ ax[j].1 = n := by
  unfold findA at h
  obtain ⟨h1, h2, h3⟩ := List.findIdx?_eq_some_iff_getElem.1 h
  exact ⟨h1, by simpa using h2, fun j hj => by have := h3 j hj; simpa using this⟩
end Go.Proofs.YtldbaoolddlacaaGreatDoor

namespace Go.Proofs.YtldbaoolddlacaaGreatDoor
open Go.RowKit
set_option maxHeartbeats 1000000 in
theorem called_any (n : ByteArray) (w : World) :
    Calls Tryz.prog 89 #[.string n] w fun e w' => e = .returned (.func (.func 100) #[] #[.pointer (some ⟨w.heap.size, 0, none⟩)]) ∧ w' = w.alloc (.cells #[.string n] 9) := by
  go_enter Tryz.func89, Tryz.ntmps89
  go_wp2_with fail
  go_ret
  exact ⟨rfl, rfl⟩
set_option maxHeartbeats 1000000 in
theorem called1_any (n : ByteArray) (B : Nat) (x : ByteArray × ByteArray) (W : World) (hc : W.cell? ⟨B, 0, none⟩ = some (.string n)) :
    Calls Tryz.prog 100 #[.agg #[.string x.1, .string x.2], .pointer (some ⟨B, 0, none⟩)] W fun e w' => e = .returned (.bool (isN n x)) ∧ Below W.heap.size W w' := by
  have hB := World.block_lt_of_cell? _ _ hc
  have hne : B ≠ W.heap.size := by have : B < W.heap.size := hB; omega
  have E := hide (txt_beq x.1 n)
  unfold isN
  generalize x.1 = a at *
  generalize x.2 = b at *
  generalize hR : decide (a = n) = R at *
  clear hR
  go_enter Tryz.func100, Tryz.ntmps100
  go_wp2_with fail
  go_ret
  exact ⟨ret_bool E.out, (Below.refl _ W).alloc (Nat.le_refl _) _⟩
theorem called_pred (n : ByteArray) (w : World) : PredA 100 #[.pointer (some ⟨w.heap.size, 0, none⟩)] (isN n) (w.alloc (.cells #[.string n] 9)) := fun W x hb =>
  called1_any n w.heap.size x W ((hb.cell (by simp)).trans (by simp))
theorem entersCalled : ∀ args w, (callFunc 100 args).run Tryz.prog w = .ok (.enter 100 args) w := Go.Proofs.enters_of Tryz.func100 (by kernel_rfl) rfl
end Go.Proofs.YtldbaoolddlacaaGreatDoor

namespace Go.Proofs.YtldbaoolddlacaaGreatDoor
open Go.RowKit
set_option maxHeartbeats 4000000 in
set_option maxRecDepth 100000 in
theorem of_input (n : Nd) (va vk : Value) (w : World) (hT : KTabs w) (ha : AttrsV w va n.attrs) (hl : n.attrs.length ≤ 4398046511104) (hs : ∀ a ∈ n.attrs, a.2.size ≤ 140737488351232) (h : n.name = ⟨#[105, 110, 112, 117, 116]⟩) :
    Calls Tryz.prog 47 #[.agg #[.string n.name, .string n.text, va, .int .i64 n.parent, vk]] w fun e w' => e = .returned (.int .i64 (byT (tyOf n.attrs) 1 22 2)) ∧ Below w.heap.size w w' := by
  have t0 : (n.name.toList == [105, 110, 112, 117, 116]) = true := lit_yes h
  have t1 : (n.name.toList == [115, 101, 108, 101, 99, 116]) = false := by rw [h, ByteArray.toList_eq]; rfl
  have t2 : (n.name.toList == [116, 101, 120, 116, 97, 114, 101, 97]) = false := by rw [h, ByteArray.toList_eq]; rfl
  have t3 : (n.name.toList == [98, 117, 116, 116, 111, 110]) = false := by rw [h, ByteArray.toList_eq]; rfl
  clear h
  have B0 : Hid (Below w.heap.size w (w.alloc (.cells #[.string n.name, .string n.text, va, .int .i64 n.parent, vk] 40))) := (Below.refl _ w).alloc (Nat.le_refl _) _
  have k0 : (w.alloc (.cells #[.string n.name, .string n.text, va, .int .i64 n.parent, vk] 40)).cell? ⟨w.heap.size, 0, none⟩ = some (.string n.name) := by simp
  have k1 : (w.alloc (.cells #[.string n.name, .string n.text, va, .int .i64 n.parent, vk] 40)).cell? ⟨w.heap.size, 1, none⟩ = some (.string n.text) := by simp
  have k2 : (w.alloc (.cells #[.string n.name, .string n.text, va, .int .i64 n.parent, vk] 40)).cell? ⟨w.heap.size, 2, none⟩ = some (va) := by simp
  have k3 : (w.alloc (.cells #[.string n.name, .string n.text, va, .int .i64 n.parent, vk] 40)).cell? ⟨w.heap.size, 3, none⟩ = some (.int .i64 n.parent) := by simp
  have k4 : (w.alloc (.cells #[.string n.name, .string n.text, va, .int .i64 n.parent, vk] 40)).cell? ⟨w.heap.size, 4, none⟩ = some (vk) := by simp
  have HBy := hide (byType_any n va vk 1 22 2 (w.alloc (.cells #[.string n.name, .string n.text, va, .int .i64 n.parent, vk] 40)) (hT.below B0.out) (ha.below B0.out) hl hs)
  clear hT ha hl hs
  go_enter Tryz.func47, Tryz.ntmps47
  go_wp2_with fail
  generalize w.alloc (.cells #[.string n.name, .string n.text, va, .int .i64 n.parent, vk] 40) = w0 at *
  refine HBy.out.mono ?_
  rintro e w1 ⟨rfl, b1⟩
  go_wp2_with fail
  go_ret
  exact ⟨rfl, chain B0.out b1⟩
set_option maxHeartbeats 4000000 in
set_option maxRecDepth 100000 in
theorem of_select (n : Nd) (va vk : Value) (w : World) (h : n.name = ⟨#[115, 101, 108, 101, 99, 116]⟩) :
    Calls Tryz.prog 47 #[.agg #[.string n.name, .string n.text, va, .int .i64 n.parent, vk]] w fun e w' => e = .returned (.int .i64 (23)) ∧ Below w.heap.size w w' := by
  have t0 : (n.name.toList == [105, 110, 112, 117, 116]) = false := by rw [h, ByteArray.toList_eq]; rfl
  have t1 : (n.name.toList == [115, 101, 108, 101, 99, 116]) = true := lit_yes h
  have t2 : (n.name.toList == [116, 101, 120, 116, 97, 114, 101, 97]) = false := by rw [h, ByteArray.toList_eq]; rfl
  have t3 : (n.name.toList == [98, 117, 116, 116, 111, 110]) = false := by rw [h, ByteArray.toList_eq]; rfl
  clear h
  have B0 : Hid (Below w.heap.size w (w.alloc (.cells #[.string n.name, .string n.text, va, .int .i64 n.parent, vk] 40))) := (Below.refl _ w).alloc (Nat.le_refl _) _
  have k0 : (w.alloc (.cells #[.string n.name, .string n.text, va, .int .i64 n.parent, vk] 40)).cell? ⟨w.heap.size, 0, none⟩ = some (.string n.name) := by simp
  have k1 : (w.alloc (.cells #[.string n.name, .string n.text, va, .int .i64 n.parent, vk] 40)).cell? ⟨w.heap.size, 1, none⟩ = some (.string n.text) := by simp
  have k2 : (w.alloc (.cells #[.string n.name, .string n.text, va, .int .i64 n.parent, vk] 40)).cell? ⟨w.heap.size, 2, none⟩ = some (va) := by simp
  have k3 : (w.alloc (.cells #[.string n.name, .string n.text, va, .int .i64 n.parent, vk] 40)).cell? ⟨w.heap.size, 3, none⟩ = some (.int .i64 n.parent) := by simp
  have k4 : (w.alloc (.cells #[.string n.name, .string n.text, va, .int .i64 n.parent, vk] 40)).cell? ⟨w.heap.size, 4, none⟩ = some (vk) := by simp
  go_enter Tryz.func47, Tryz.ntmps47
  go_wp2_with fail
  go_ret
  exact ⟨rfl, B0.out⟩
set_option maxHeartbeats 4000000 in
set_option maxRecDepth 100000 in
theorem of_textarea (n : Nd) (va vk : Value) (w : World) (h : n.name = ⟨#[116, 101, 120, 116, 97, 114, 101, 97]⟩) :
    Calls Tryz.prog 47 #[.agg #[.string n.name, .string n.text, va, .int .i64 n.parent, vk]] w fun e w' => e = .returned (.int .i64 (24)) ∧ Below w.heap.size w w' := by
  have t0 : (n.name.toList == [105, 110, 112, 117, 116]) = false := by rw [h, ByteArray.toList_eq]; rfl
  have t1 : (n.name.toList == [115, 101, 108, 101, 99, 116]) = false := by rw [h, ByteArray.toList_eq]; rfl
  have t2 : (n.name.toList == [116, 101, 120, 116, 97, 114, 101, 97]) = true := lit_yes h
  have t3 : (n.name.toList == [98, 117, 116, 116, 111, 110]) = false := by rw [h, ByteArray.toList_eq]; rfl
  clear h
  have B0 : Hid (Below w.heap.size w (w.alloc (.cells #[.string n.name, .string n.text, va, .int .i64 n.parent, vk] 40))) := (Below.refl _ w).alloc (Nat.le_refl _) _
  have k0 : (w.alloc (.cells #[.string n.name, .string n.text, va, .int .i64 n.parent, vk] 40)).cell? ⟨w.heap.size, 0, none⟩ = some (.string n.name) := by simp
  have k1 : (w.alloc (.cells #[.string n.name, .string n.text, va, .int .i64 n.parent, vk] 40)).cell? ⟨w.heap.size, 1, none⟩ = some (.string n.text) := by simp
  have k2 : (w.alloc (.cells #[.string n.name, .string n.text, va, .int .i64 n.parent, vk] 40)).cell? ⟨w.heap.size, 2, none⟩ = some (va) := by simp
  have k3 : (w.alloc (.cells #[.string n.name, .string n.text, va, .int .i64 n.parent, vk] 40)).cell? ⟨w.heap.size, 3, none⟩ = some (.int .i64 n.parent) := by simp
  have k4 : (w.alloc (.cells #[.string n.name, .string n.text, va, .int .i64 n.parent, vk] 40)).cell? ⟨w.heap.size, 4, none⟩ = some (vk) := by simp
  go_enter Tryz.func47, Tryz.ntmps47
  go_wp2_with fail
  go_ret
  exact ⟨rfl, B0.out⟩
set_option maxHeartbeats 4000000 in
set_option maxRecDepth 100000 in
theorem of_button (n : Nd) (va vk : Value) (w : World) (hT : KTabs w) (ha : AttrsV w va n.attrs) (hl : n.attrs.length ≤ 4398046511104) (hs : ∀ a ∈ n.attrs, a.2.size ≤ 140737488351232) (h : n.name = ⟨#[98, 117, 116, 116, 111, 110]⟩) :
    Calls Tryz.prog 47 #[.agg #[.string n.name, .string n.text, va, .int .i64 n.parent, vk]] w fun e w' => e = .returned (.int .i64 (byT (tyOf n.attrs) 25 27 25)) ∧ Below w.heap.size w w' := by
  have t0 : (n.name.toList == [105, 110, 112, 117, 116]) = false := by rw [h, ByteArray.toList_eq]; rfl
  have t1 : (n.name.toList == [115, 101, 108, 101, 99, 116]) = false := by rw [h, ByteArray.toList_eq]; rfl
  have t2 : (n.name.toList == [116, 101, 120, 116, 97, 114, 101, 97]) = false := by rw [h, ByteArray.toList_eq]; rfl
  have t3 : (n.name.toList == [98, 117, 116, 116, 111, 110]) = true := lit_yes h
  clear h
  have B0 : Hid (Below w.heap.size w (w.alloc (.cells #[.string n.name, .string n.text, va, .int .i64 n.parent, vk] 40))) := (Below.refl _ w).alloc (Nat.le_refl _) _
  have k0 : (w.alloc (.cells #[.string n.name, .string n.text, va, .int .i64 n.parent, vk] 40)).cell? ⟨w.heap.size, 0, none⟩ = some (.string n.name) := by simp
  have k1 : (w.alloc (.cells #[.string n.name, .string n.text, va, .int .i64 n.parent, vk] 40)).cell? ⟨w.heap.size, 1, none⟩ = some (.string n.text) := by simp
  have k2 : (w.alloc (.cells #[.string n.name, .string n.text, va, .int .i64 n.parent, vk] 40)).cell? ⟨w.heap.size, 2, none⟩ = some (va) := by simp
  have k3 : (w.alloc (.cells #[.string n.name, .string n.text, va, .int .i64 n.parent, vk] 40)).cell? ⟨w.heap.size, 3, none⟩ = some (.int .i64 n.parent) := by simp
  have k4 : (w.alloc (.cells #[.string n.name, .string n.text, va, .int .i64 n.parent, vk] 40)).cell? ⟨w.heap.size, 4, none⟩ = some (vk) := by simp
  have HBy := hide (byType_any n va vk 25 27 25 (w.alloc (.cells #[.string n.name, .string n.text, va, .int .i64 n.parent, vk] 40)) (hT.below B0.out) (ha.below B0.out) hl hs)
  clear hT ha hl hs
  go_enter Tryz.func47, Tryz.ntmps47
  go_wp2_with fail
  generalize w.alloc (.cells #[.string n.name, .string n.text, va, .int .i64 n.parent, vk] 40) = w0 at *
  refine HBy.out.mono ?_
  rintro e w1 ⟨rfl, b1⟩
  go_wp2_with fail
  go_ret
  exact ⟨rfl, chain B0.out b1⟩
def lastI (A : Option Nat) : Int := match A with
  | none => 0
  | some i => 28 + (i : Int)
set_option maxHeartbeats 4000000 in
set_option maxRecDepth 100000 in
theorem of_last (n : Nd) (va vk : Value) (w : World) (hT : KTabs w) (h0 : ¬ n.name = ⟨#[105, 110, 112, 117, 116]⟩) (h1 : ¬ n.name = ⟨#[115, 101, 108, 101, 99, 116]⟩) (h2 : ¬ n.name = ⟨#[116, 101, 120, 116, 97, 114, 101, 97]⟩) (h3 : ¬ n.name = ⟨#[98, 117, 116, 116, 111, 110]⟩) :
    Calls Tryz.prog 47 #[.agg #[.string n.name, .string n.text, va, .int .i64 n.parent, vk]] w fun e w' => e = .returned (.int .i64 (lastI (seekL n.name 8 0))) ∧ Below w.heap.size w w' := by
  have TB := hide (fun k => txt_beq n.name (lastN k))
  have t0 := lit_no (l := [105, 110, 112, 117, 116]) h0
  have t1 := lit_no (l := [115, 101, 108, 101, 99, 116]) h1
  have t2 := lit_no (l := [116, 101, 120, 116, 97, 114, 101, 97]) h2
  have t3 := lit_no (l := [98, 117, 116, 116, 111, 110]) h3
  clear h0 h1 h2 h3
  have B0 : Hid (Below w.heap.size w (w.alloc (.cells #[.string n.name, .string n.text, va, .int .i64 n.parent, vk] 40))) := (Below.refl _ w).alloc (Nat.le_refl _) _
  have k0 : (w.alloc (.cells #[.string n.name, .string n.text, va, .int .i64 n.parent, vk] 40)).cell? ⟨w.heap.size, 0, none⟩ = some (.string n.name) := by simp
  have k1 : (w.alloc (.cells #[.string n.name, .string n.text, va, .int .i64 n.parent, vk] 40)).cell? ⟨w.heap.size, 1, none⟩ = some (.string n.text) := by simp
  have k2 : (w.alloc (.cells #[.string n.name, .string n.text, va, .int .i64 n.parent, vk] 40)).cell? ⟨w.heap.size, 2, none⟩ = some (va) := by simp
  have k3 : (w.alloc (.cells #[.string n.name, .string n.text, va, .int .i64 n.parent, vk] 40)).cell? ⟨w.heap.size, 3, none⟩ = some (.int .i64 n.parent) := by simp
  have k4 : (w.alloc (.cells #[.string n.name, .string n.text, va, .int .i64 n.parent, vk] 40)).cell? ⟨w.heap.size, 4, none⟩ = some (vk) := by simp
  have T0 := hT.below B0.out
  obtain ⟨CS, hld, hin, hix⟩ := load_last (w.alloc (.cells #[.string n.name, .string n.text, va, .int .i64 n.parent, vk] 40)) T0
  have HIX := hide hix
  have HLD := hide hld
  have HIN := hide hin
  clear hix hld hin
  obtain ⟨A, hA⟩ : ∃ A, Hid (seekL n.name 8 0 = A) := ⟨_, show _ = _ from rfl⟩
  rw [hA.out]
  clear hT T0
  go_enter Tryz.func47, Tryz.ntmps47
  generalize n.name = nm at *
  go_upto_region 10 with fail
  refine wp_region_lit ?_
  refine wpList_load_mid rfl 89 _ rfl 0 0 rfl CS _ HLD.out Tryz.underlying89 rfl HIN.out ?_
  generalize CS.toArray = CA at *
  go_wp2_with fail
  generalize w.alloc (.cells #[.string nm, .string n.text, va, .int .i64 n.parent, vk] 40) = w0 at *
  go_loop [20] (fun iv => ∃ k : Nat, k ≤ 8 ∧ iv = .int .i64 k ∧ Hid (seekL nm (8 - k) k = A)) (fun iv => 8 - (intOf iv).toNat)
  case atStart => exact ⟨0, Nat.zero_le _, rfl, hA⟩
  case round =>
    obtain ⟨k, hk, rfl, hn⟩ := hrel
    clear hA
    by_cases hlt : k < 8
    · have hix := HIX.out k hlt w0
      have kk : (k : Int) < 8 := by omega
      have ST := hide (hn.out.symm.trans (seekL_step nm k hlt))
      have TK := hide (TB.out k)
      by_cases he : lastN k = nm
      · have q : (nm.toList == (lastN k).toList) = true := by rw [TK.out]; exact decide_eq_true he.symm
        rw [if_pos he] at ST
        clear hn he TB
        generalize lastN k = x at *
        go_wp2_with fail
        go_ret
        exact ⟨by rw [ST.out]; rfl, B0.out⟩
      · have q : (nm.toList == (lastN k).toList) = false := by rw [TK.out]; exact decide_eq_false (fun t => he t.symm)
        rw [if_neg he] at ST
        clear hn he TB
        generalize lastN k = x at *
        go_wp2_with fail
        go_round
        case rel => exact ⟨k + 1, by omega, by go_num, ST.out.symm⟩
        case measure => simp [intOf]; omega
    · obtain rfl : k = 8 := by omega
      have N : Hid (A = none) := hn.out.symm
      clear hn hlt
      go_wp2_with fail
      go_ret
      exact ⟨by rw [N.out]; rfl, B0.out⟩
theorem of_any (n : Nd) (va vk : Value) (w : World) (hT : KTabs w) (ha : AttrsV w va n.attrs) (hl : n.attrs.length ≤ 4398046511104) (hs : ∀ a ∈ n.attrs, a.2.size ≤ 140737488351232) :
    Calls Tryz.prog 47 #[.agg #[.string n.name, .string n.text, va, .int .i64 n.parent, vk]] w fun e w' => e = .returned (.int .i64 (kOf n.name (tyOf n.attrs))) ∧ Below w.heap.size w w' := by
  by_cases h0 : n.name = ⟨#[105, 110, 112, 117, 116]⟩
  · rw [show kOf n.name (tyOf n.attrs) = byT (tyOf n.attrs) 1 22 2 from by unfold kOf; rw [if_pos h0]]
    exact of_input n va vk w hT ha hl hs h0
  by_cases h1 : n.name = ⟨#[115, 101, 108, 101, 99, 116]⟩
  · rw [show kOf n.name (tyOf n.attrs) = 23 from by unfold kOf; rw [if_neg h0, if_pos h1]]
    exact of_select n va vk w h1
  by_cases h2 : n.name = ⟨#[116, 101, 120, 116, 97, 114, 101, 97]⟩
  · rw [show kOf n.name (tyOf n.attrs) = 24 from by unfold kOf; rw [if_neg h0, if_neg h1, if_pos h2]]
    exact of_textarea n va vk w h2
  by_cases h3 : n.name = ⟨#[98, 117, 116, 116, 111, 110]⟩
  · rw [show kOf n.name (tyOf n.attrs) = byT (tyOf n.attrs) 25 27 25 from by unfold kOf; rw [if_neg h0, if_neg h1, if_neg h2, if_pos h3]]
    exact of_button n va vk w hT ha hl hs h3
  rw [show kOf n.name (tyOf n.attrs) = lastI (seekL n.name 8 0) from by unfold kOf; rw [if_neg h0, if_neg h1, if_neg h2, if_neg h3]; rfl]
  exact of_last n va vk w hT h0 h1 h2 h3
end Go.Proofs.YtldbaoolddlacaaGreatDoor

namespace Go.Proofs.YtldbaoolddlacaaGreatDoor
open Go.RowKit
def attrsB (ax : List (ByteArray × ByteArray)) : Bool := decide (ax.length ≤ 40) && (List.range ax.length).all (attrOk ax)
theorem attrs_long {ax : List (ByteArray × ByteArray)} (h : 40 < ax.length) : attrsB ax = false := by unfold attrsB; rw [decide_eq_false (by omega)]; rfl
theorem attrs_bad {ax : List (ByteArray × ByteArray)} {k : Nat} (hk : k < ax.length) (h : attrOk ax k = false) : attrsB ax = false := by
  unfold attrsB
  have : (List.range ax.length).all (attrOk ax) = false := by
    rw [List.all_eq_false]
    exact ⟨k, List.mem_range.2 hk, by rw [h]; decide⟩
  rw [this, Bool.and_false]
theorem attrs_good {ax : List (ByteArray × ByteArray)} (h0 : ax.length ≤ 40) (h : ∀ k, k < ax.length → attrOk ax k = true) : attrsB ax = true := by
  unfold attrsB
  rw [decide_eq_true h0, Bool.true_and, List.all_eq_true]
  exact fun k hk => h k (List.mem_range.1 hk)
theorem take_idx {ax : List (ByteArray × ByteArray)} {k : Nat} (hk : k < ax.length) : (findA ax ax[k].1 == some k) = !((ax.take k).findIdx? (isN ax[k].1)).isSome := by
  by_cases h : ∀ j (hj : j < k), ¬ ax[j].1 = ax[k].1
  · rw [(find_first hk).2 h]
    have : (ax.take k).findIdx? (isN ax[k].1) = none := by
      rw [List.findIdx?_eq_none_iff]
      intro x hx
      obtain ⟨j, hj, rfl⟩ := List.getElem_of_mem hx
      rw [List.length_take] at hj
      rw [List.getElem_take]
      exact decide_eq_false (h j (by omega))
    rw [this]; simp
  · have h1 : (findA ax ax[k].1 == some k) = false := by
      rw [beq_eq_false_iff_ne]
      exact fun q => h ((find_first hk).1 q)
    rw [h1]
    have : ((ax.take k).findIdx? (isN ax[k].1)).isSome = true := by
      rw [List.findIdx?_isSome, List.any_eq_true]
      have ⟨j, hj⟩ : ∃ j, ∃ hj : j < k, ax[j].1 = ax[k].1 := by
        refine Classical.byContradiction fun q => h fun j hj e => q ⟨j, hj, e⟩
      obtain ⟨hj, e⟩ := hj
      exact ⟨ax[j], List.mem_take_iff_getElem.2 ⟨j, by omega, rfl⟩, decide_eq_true e⟩
    rw [this]; rfl
theorem attrOk_tk {ax : List (ByteArray × ByteArray)} {k : Nat} (hk : k < ax.length) : attrOk ax k = (nameOk ax[k].1 && (decide (ax[k].2.size ≤ 4000) && !((ax.take k).findIdx? (isN ax[k].1)).isSome)) := by
  unfold attrOk
  have : ax.getD k at0 = ax[k] := by simp [List.getD, hk]
  rw [this, take_idx hk]
theorem AttrsV.take {w : World} {p : Option Addr} {c : Nat} {ax : List (ByteArray × ByteArray)} (h : AttrsV w (.slice p ax.length c) ax) {k : Nat} (hk : k ≤ ax.length) (c' : Nat) : AttrsV w (.slice p k c') (ax.take k) := by
  obtain ⟨p', c2, e, h⟩ := h
  cases e
  refine ⟨p, c', by rw [List.length_take, Nat.min_eq_left hk], ?_⟩
  rcases h with h | ⟨b, o, rfl, h⟩
  · exact .inl (by rw [h, List.take_nil])
  · refine .inr ⟨b, o, rfl, fun i hi => ?_⟩
    rw [List.length_take] at hi
    rw [List.getElem_take]
    exact h i (by omega)
set_option maxHeartbeats 4000000 in
set_option maxRecDepth 100000 in
theorem areAttrs_any (p : Option Addr) (c : Nat) (ax : List (ByteArray × ByteArray)) (w : World) (hv : AttrsV w (.slice p ax.length c) ax) (hl : ax.length ≤ 4398046511104) (hc : ax.length ≤ c) (hs : ∀ a ∈ ax, a.1.size ≤ maxLen ∧ a.2.size ≤ maxLen) :
    Calls Tryz.prog 69 #[.slice p ax.length c] w fun e w' => e = .returned (.bool (attrsB ax)) ∧ Below w.heap.size w w' := by
  by_cases h40 : 40 < ax.length
  · have E := hide (attrs_long h40)
    have i1 : (40 : Int) < (ax.length : Int) := by omega
    clear hv hs h40
    go_enter Tryz.func69, Tryz.ntmps69
    go_wp2_with fail
    go_ret
    exact ⟨ret_bool E.out.symm, Below.refl _ _⟩
  have i40 : ¬ (40 : Int) < (ax.length : Int) := by omega
  have n40 : ax.length ≤ 40 := by omega
  have BAD := hide (fun k hk h => attrs_bad (ax := ax) (k := k) hk h)
  have GOOD := hide (fun h => attrs_good (ax := ax) n40 h)
  have HV := hide hv
  have HS := hide hs
  clear hv hs h40
  generalize attrsB ax = R at *
  go_enter Tryz.func69, Tryz.ntmps69
  go_wp2_with fail
  go_loopw [10] (fun iv wr => ∃ k : Nat, k ≤ ax.length ∧ iv = .int .i64 k ∧ Hid (∀ j, j < k → attrOk ax j = true) ∧ Hid (Below w.heap.size w wr)) (fun iv _ => ax.length - (intOf iv).toNat)
  case atStart => exact ⟨0, Nat.zero_le _, rfl, fun j q => by omega, Below.refl _ _⟩
  case round =>
    rename World => wr
    obtain ⟨k, hk, rfl, hd, BW⟩ := hrel
    by_cases h : k < ax.length
    · have i1 : (k : Int) < (ax.length : Int) := by omega
      have i0 : (0 : Int) ≤ (k : Int) := by omega
      have i2 : (k : Int) ≤ (c : Int) := by omega
      obtain ⟨b, o, rfl, hcell⟩ : ∃ b o, p = some ⟨b, o, none⟩ ∧ ∀ i (h : i < ax.length), w.cell? ⟨b, o + i * 2, none⟩ = some (.string ax[i].1) ∧ w.cell? ⟨b, o + i * 2 + 1, none⟩ = some (.string ax[i].2) := by
        obtain ⟨p', c', e, hv⟩ := HV.out
        cases e
        rcases hv with hv | hv
        · rw [hv] at h; simp at h
        · exact hv
      have c0 := cell_below (hcell k h).1 BW.out
      have c1 := cell_below (hcell k h).2 BW.out
      have OK := hide (attrOk_tk h)
      have Z := HS.out ax[k] (List.getElem_mem _)
      have z1 := Z.1
      have z2 := Z.2
      have BK := hide (BAD.out k h)
      have NX := hide (fun q : attrOk ax k = true => (fun j (r : j < k + 1) => by
        rcases Nat.lt_or_ge j k with t | t
        · exact hd.out j t
        · obtain rfl : j = k := by omega
          exact q : ∀ j, j < k + 1 → attrOk ax j = true))
      have HT : Hid (AttrsV w (.slice (some ⟨b, o, none⟩) k c) (ax.take k)) := HV.out.take hk c
      have tl : (ax.take k).length ≤ 4398046511104 := by rw [List.length_take]; omega
      have TL := hide tl
      clear hcell Z HV HS BAD GOOD hd tl
      generalize ax.take k = tk at *
      obtain ⟨n, hn⟩ : ∃ n, Hid (ax[k].1 = n) := ⟨ax[k].1, show _ = _ from rfl⟩
      obtain ⟨u, hu⟩ : ∃ u, Hid (ax[k].2 = u) := ⟨ax[k].2, show _ = _ from rfl⟩
      rw [hn.out] at c0 OK z1
      rw [hu.out] at c1 OK z2
      have HN := hide (fun w => isName_any n w z1)
      clear hn hu z1
      unfold maxLen at z2
      have bn : b < wr.heap.size := World.block_lt_of_cell? _ _ c0
      have bn2 : b ≠ wr.heap.size := by omega
      cases q1 : nameOk n with
      | false =>
        rw [q1] at HN OK
        have E := hide (BK.out (by rw [OK.out]; rfl))
        clear OK BK NX q1 HT
        go_wp2_with fail
        generalize hw1 : wr.alloc (.cells #[.string n, .string u] 36) = w1
        have N1 : Hid (NB w1 wr.heap.size [.string n, .string u] 36) := by rw [← hw1]; exact NB.new wr _ _
        have b1 : Hid (Below w.heap.size w w1) := by rw [← hw1]; exact chain BW.out ((Below.refl _ wr).alloc (Nat.le_refl _) _)
        have d0 := N1.out.cell 0 rfl
        have d1 := N1.out.cell 1 rfl
        clear hw1
        go_quiet (exact Calls.quiet_of_same (HN.out _))
        go_wp2_with fail
        go_ret
        exact ⟨ret_bool E.out.symm, bel_drewN b1.out _⟩
      | true =>
        rw [q1, Bool.true_and] at OK
        rw [q1] at HN
        clear q1
        by_cases q2 : u.size ≤ 4000
        · rw [decide_eq_true q2, Bool.true_and] at OK
          have j1 : ¬ (4000 : Int) < (u.size : Int) := by omega
          have j2 : decide ((4000 : Int) < (u.size : Int)) = false := decide_eq_false j1
          go_wp2_with fail
          generalize hw1 : wr.alloc (.cells #[.string n, .string u] 36) = w1
          have N1 : Hid (NB w1 wr.heap.size [.string n, .string u] 36) := by rw [← hw1]; exact NB.new wr _ _
          have b1 : Hid (Below w.heap.size w w1) := by rw [← hw1]; exact chain BW.out ((Below.refl _ wr).alloc (Nat.le_refl _) _)
          have d0 := N1.out.cell 0 rfl
          have d1 := N1.out.cell 1 rfl
          have ln := N1.out.lt
          have ne : wr.heap.size ≠ w1.heap.size := by omega
          have AB : Hid (∀ m, Below w1.heap.size w1 ((w1.alloc (.cells #[.string n] 9)).drewN m)) := fun m => bel_drewN ((Below.refl _ w1).alloc (Nat.le_refl _) _) m
          have HCF := hide (fun m => containsFuncA_any (.slice (some ⟨b, o, none⟩) k c) tk (isN n) 100 #[.pointer (some ⟨w1.heap.size, 0, none⟩)] entersCalled ((w1.alloc (.cells #[.string n] 9)).drewN m) (HT.out.below (chain b1.out (AB.out m))) ((called_pred n w1).later (bel_drewN (Below.refl _ _) m)) TL.out)
          clear hw1 c0 c1 HT
          generalize (tk.findIdx? (isN n)).isSome = r at *
          go_region_held3 (fun w' => w'.cell? ⟨wr.heap.size, 0, none⟩ = some (.string n) ∧ w'.cell? ⟨wr.heap.size, 1, none⟩ = some (.string u)) (first | go_keep | exact ⟨cell_below d0 (chain (AB.out 1) bb), cell_below d1 (chain (AB.out 1) bb)⟩)
            (first | (go_at_call 68; refine (HN.out _).mono ?_; rintro e w' ⟨rfl, rfl⟩) | (go_at_call 89; refine (called_any n _).mono ?_; rintro e w' ⟨rfl, rfl⟩) | (go_at_call 88; refine (HCF.out 1).mono ?_; rintro e w2 ⟨rfl, bb⟩))
          have b2 : Hid (Below w.heap.size w w2) := chain b1.out (chain (AB.out 1) bb)
          cases r with
          | true =>
            have E := hide (BK.out (by rw [OK.out]; rfl))
            clear OK BK NX
            go_wp2_with fail
            go_ret
            exact ⟨ret_bool E.out.symm, b2.out⟩
          | false =>
            have E := hide (NX.out (by rw [OK.out]; rfl))
            clear OK BK NX
            go_wp2_with fail
            go_roundw
            case rel => exact ⟨k + 1, by omega, by go_num, E, b2⟩
            case measure => simp [intOf]; omega
        · rw [decide_eq_false q2, Bool.false_and] at OK
          have E := hide (BK.out OK.out)
          have j1 : (4000 : Int) < (u.size : Int) := by omega
          have j2 : decide ((4000 : Int) < (u.size : Int)) = true := decide_eq_true j1
          clear OK BK NX q2 HT
          go_wp2_with fail
          generalize hw1 : wr.alloc (.cells #[.string n, .string u] 36) = w1
          have N1 : Hid (NB w1 wr.heap.size [.string n, .string u] 36) := by rw [← hw1]; exact NB.new wr _ _
          have b1 : Hid (Below w.heap.size w w1) := by rw [← hw1]; exact chain BW.out ((Below.refl _ wr).alloc (Nat.le_refl _) _)
          have d0 := N1.out.cell 0 rfl
          have d1 := N1.out.cell 1 rfl
          clear hw1
          go_quiet (exact Calls.quiet_of_same (HN.out _))
          go_wp2_with fail
          go_ret
          exact ⟨ret_bool E.out.symm, bel_drewN b1.out _⟩
    · obtain rfl : k = ax.length := by omega
      have E := hide (GOOD.out (fun j hj => hd.out j hj))
      clear BAD GOOD hd HV HS h
      go_wp2_with fail
      go_ret
      exact ⟨ret_bool E.out.symm, BW.out⟩

end Go.Proofs.YtldbaoolddlacaaGreatDoor
