/- What is asked of a control. Ways of the program's questions of layer 18, for a control that is empty, of no counting kind, and has no attributes that are asked for. -/
import Derived.Test.YtlppocdhfeejkaaGreatDoorJvv35
import Derived.Test.YtlppocdhfeejkaaGreatDoorJvv39
import Derived.RangeFuncNested
import Derived.RangeFuncBound
import Derived.RangeFuncCalls
import Derived.RangeFuncLeaves
import Derived.RangeFuncBox
import Derived.Shelf.RegionOpen
import Derived.OwnWalkIn
import Derived.TacticsInMore
import Derived.LoopNIn
import Derived.LoopIn

namespace Go.Proofs.YtlppocdhfeejkaaGreatDoor
open Go.RowKit
theorem ask_cells {w : World} {b : Nat} {v0 v1 v2 v3 v4 v5 v6 v7 v8 v9 v10 v11 v12 v13 v14 v15 v16 v17 v18 v19 : Value} (h : Bk w b [v0, v1, v2, v3, v4, v5, v6, v7, v8, v9, v10, v11, v12, v13, v14, v15, v16, v17, v18, v19] 62) :
    w.cell? ⟨b, 0, none⟩ = some v0 ∧ w.cell? ⟨b, 1, none⟩ = some v1 ∧ w.cell? ⟨b, 2, none⟩ = some v2 ∧ w.cell? ⟨b, 3, none⟩ = some v3 ∧ w.cell? ⟨b, 4, none⟩ = some v4 ∧ w.cell? ⟨b, 5, none⟩ = some v5 ∧ w.cell? ⟨b, 6, none⟩ = some v6 ∧ w.cell? ⟨b, 7, none⟩ = some v7 ∧ w.cell? ⟨b, 8, none⟩ = some v8 ∧ w.cell? ⟨b, 9, none⟩ = some v9 ∧ w.cell? ⟨b, 10, none⟩ = some v10 ∧ w.cell? ⟨b, 11, none⟩ = some v11 ∧ w.cell? ⟨b, 12, none⟩ = some v12 ∧ w.cell? ⟨b, 13, none⟩ = some v13 ∧ w.cell? ⟨b, 14, none⟩ = some v14 ∧ w.cell? ⟨b, 15, none⟩ = some v15 ∧ w.cell? ⟨b, 16, none⟩ = some v16 ∧ w.cell? ⟨b, 17, none⟩ = some v17 ∧ w.cell? ⟨b, 18, none⟩ = some v18 ∧ w.cell? ⟨b, 19, none⟩ = some v19 :=
  ⟨h.cell 0 rfl, h.cell 1 rfl, h.cell 2 rfl, h.cell 3 rfl, h.cell 4 rfl, h.cell 5 rfl, h.cell 6 rfl, h.cell 7 rfl, h.cell 8 rfl, h.cell 9 rfl, h.cell 10 rfl, h.cell 11 rfl, h.cell 12 rfl, h.cell 13 rfl, h.cell 14 rfl, h.cell 15 rfl, h.cell 16 rfl, h.cell 17 rfl, h.cell 18 rfl, h.cell 19 rfl⟩
/-- The cells of a block of the call's own, all at once. -/
theorem Bk.range {w : World} {n : Nat} {cs : List Value} {t : TypeId} (h : Bk w n cs t) : w.rangeAt n 0 cs := fun j v hv => by rw [Nat.zero_add]; exact h.cell j hv
end Go.Proofs.YtlppocdhfeejkaaGreatDoor

namespace Go.Proofs.YtlppocdhfeejkaaGreatDoor
open Go.RowKit
set_option maxRecDepth 100000
theorem ret_tol {a b : ByteArray} {c d : Bool} (h : a = b) (g : c = d) : Ending.returned (.tuple #[.string a, .bool c]) = .returned (.tuple #[.string b, .bool d]) := by rw [h, g]
set_option maxHeartbeats 8000000 in
theorem vaTold_no (p q pa pk fp : Option Addr) (ln lc cn cc na ca nk ck fl fc : Nat) (id kind n3 : Int) (n0 n1 z0 z8 s : ByteArray) (z1 z2 z3 z4 z5 z6 z7 : Bool) (w : World) (name : ByteArray) (ax : List (ByteArray × ByteArray)) (hv : AttrsV w (.slice pa na ca) ax) (hl : ax.length ≤ 4398046511104) (hn : (appB kind name && (findA ax name).isSome) = false) :
    Calls Tryz.prog 72 #[.agg #[.slice p ln lc, .slice q cn cc, .int .i64 id, .int .i64 kind, .string n0, .string n1, .slice pa na ca, .int .i64 n3, .slice pk nk ck, .string z0, .bool z1, .bool z2, .bool z3, .bool z4, .bool z5, .bool z6, .bool z7, .string z8, .slice fp fl fc, .string s], .string name] w fun e w' => e = .returned (.tuple #[.string ⟨#[]⟩, .bool false]) ∧ Below w.heap.size w w' := by
  have HA := hide (fun W => applies_any kind name W)
  have HF := hide (fun W (hb : Below w.heap.size w W) => vaFind_any ⟨n0, n1, ax, n3, []⟩ (.slice pa na ca) pk nk ck name W (hv.below hb) hl)
  have MI : Hid ((findA ax name).isSome = false → fndS ax name = ⟨#[]⟩) := fun h => by
    unfold fndS
    cases g : findA ax name with
    | none => rfl
    | some i => rw [g] at h; cases h
  have eF : Hid (hasA ⟨n0, n1, ax, n3, []⟩ name = (findA ax name).isSome) := (rfl : _ = _)
  rw [eF.out] at HF
  clear eF hv hl
  have B0 : Hid (Below w.heap.size w (w.alloc (.cells #[.slice p ln lc, .slice q cn cc, .int .i64 id, .int .i64 kind, .string n0, .string n1, .slice pa na ca, .int .i64 n3, .slice pk nk ck, .string z0, .bool z1, .bool z2, .bool z3, .bool z4, .bool z5, .bool z6, .bool z7, .string z8, .slice fp fl fc, .string s] 62))) := (Below.refl _ w).alloc (Nat.le_refl _) _
  have KB := hide (Bk.new w [.slice p ln lc, .slice q cn cc, .int .i64 id, .int .i64 kind, .string n0, .string n1, .slice pa na ca, .int .i64 n3, .slice pk nk ck, .string z0, .bool z1, .bool z2, .bool z3, .bool z4, .bool z5, .bool z6, .bool z7, .string z8, .slice fp fl fc, .string s] 62)
  cases ha : appB kind name with
  | false =>
    rw [ha] at HA
    clear HF MI hn ha
    go_enter Tryz.func72, Tryz.ntmps72
    go_upto_region 1 with fail
    generalize (w.alloc (.cells #[.slice p ln lc, .slice q cn cc, .int .i64 id, .int .i64 kind, .string n0, .string n1, .slice pa na ca, .int .i64 n3, .slice pk nk ck, .string z0, .bool z1, .bool z2, .bool z3, .bool z4, .bool z5, .bool z6, .bool z7, .string z8, .slice fp fl fc, .string s] 62)) = w0 at *
    obtain ⟨x0, x1, x2, x3, x4, x5, x6, x7, x8, x9, x10, x11, x12, x13, x14, x15, x16, x17, x18, x19⟩ := ask_cells KB.out
    go_wp2_with fail
    refine (HA.out _).mono ?_
    rintro e u ⟨rfl, hu⟩
    obtain rfl : _ = u := hu.symm
    go_wp2_with fail
    go_ret2
    exact ⟨rfl, B0.out⟩
  | true =>
    rw [ha, Bool.true_and] at hn
    rw [ha] at HA
    have E := hide (MI.out hn)
    rw [hn] at HF
    clear MI hn ha
    generalize fndS ax name = fs at *
    go_enter Tryz.func72, Tryz.ntmps72
    go_upto_region 1 with fail
    generalize (w.alloc (.cells #[.slice p ln lc, .slice q cn cc, .int .i64 id, .int .i64 kind, .string n0, .string n1, .slice pa na ca, .int .i64 n3, .slice pk nk ck, .string z0, .bool z1, .bool z2, .bool z3, .bool z4, .bool z5, .bool z6, .bool z7, .string z8, .slice fp fl fc, .string s] 62)) = w0 at *
    obtain ⟨x0, x1, x2, x3, x4, x5, x6, x7, x8, x9, x10, x11, x12, x13, x14, x15, x16, x17, x18, x19⟩ := ask_cells KB.out
    go_wp2_with fail
    refine (HA.out _).mono ?_
    rintro e u ⟨rfl, hu⟩
    obtain rfl : _ = u := hu.symm
    go_wp2_with fail
    refine (HF.out _ B0.out).mono ?_
    rintro e w1 ⟨rfl, b1⟩
    go_wp2_with fail
    go_ret2
    exact ⟨ret_tol E.out rfl, chain B0.out b1⟩
set_option maxHeartbeats 8000000 in
theorem vaTold_yes (p q pa pk fp : Option Addr) (ln lc cn cc na ca nk ck fl fc : Nat) (id kind n3 : Int) (n0 n1 z0 z8 s : ByteArray) (z1 z2 z3 z4 z5 z6 z7 : Bool) (w : World) (name : ByteArray) (ax : List (ByteArray × ByteArray)) (hv : AttrsV w (.slice pa na ca) ax) (hl : ax.length ≤ 4398046511104) (ha : appB kind name = true) (hn : (findA ax name).isSome = true) :
    Calls Tryz.prog 72 #[.agg #[.slice p ln lc, .slice q cn cc, .int .i64 id, .int .i64 kind, .string n0, .string n1, .slice pa na ca, .int .i64 n3, .slice pk nk ck, .string z0, .bool z1, .bool z2, .bool z3, .bool z4, .bool z5, .bool z6, .bool z7, .string z8, .slice fp fl fc, .string s], .string name] w fun e w' => e = .returned (.tuple #[.string (fndS ax name), .bool true]) ∧ Below w.heap.size w w' := by
  have HA := hide (fun W => applies_any kind name W)
  have HF := hide (fun W (hb : Below w.heap.size w W) => vaFind_any ⟨n0, n1, ax, n3, []⟩ (.slice pa na ca) pk nk ck name W (hv.below hb) hl)
  have eF : Hid (hasA ⟨n0, n1, ax, n3, []⟩ name = true) := hn
  rw [eF.out] at HF
  rw [ha] at HA
  clear eF hv hl hn ha
  generalize fndS ax name = fs at *
  have B0 : Hid (Below w.heap.size w (w.alloc (.cells #[.slice p ln lc, .slice q cn cc, .int .i64 id, .int .i64 kind, .string n0, .string n1, .slice pa na ca, .int .i64 n3, .slice pk nk ck, .string z0, .bool z1, .bool z2, .bool z3, .bool z4, .bool z5, .bool z6, .bool z7, .string z8, .slice fp fl fc, .string s] 62))) := (Below.refl _ w).alloc (Nat.le_refl _) _
  have KB := hide (Bk.new w [.slice p ln lc, .slice q cn cc, .int .i64 id, .int .i64 kind, .string n0, .string n1, .slice pa na ca, .int .i64 n3, .slice pk nk ck, .string z0, .bool z1, .bool z2, .bool z3, .bool z4, .bool z5, .bool z6, .bool z7, .string z8, .slice fp fl fc, .string s] 62)
  go_enter Tryz.func72, Tryz.ntmps72
  go_upto_region 1 with fail
  generalize (w.alloc (.cells #[.slice p ln lc, .slice q cn cc, .int .i64 id, .int .i64 kind, .string n0, .string n1, .slice pa na ca, .int .i64 n3, .slice pk nk ck, .string z0, .bool z1, .bool z2, .bool z3, .bool z4, .bool z5, .bool z6, .bool z7, .string z8, .slice fp fl fc, .string s] 62)) = w0 at *
  obtain ⟨x0, x1, x2, x3, x4, x5, x6, x7, x8, x9, x10, x11, x12, x13, x14, x15, x16, x17, x18, x19⟩ := ask_cells KB.out
  go_wp2_with fail
  refine (HA.out _).mono ?_
  rintro e u ⟨rfl, hu⟩
  obtain rfl : _ = u := hu.symm
  go_wp2_with fail
  refine (HF.out _ B0.out).mono ?_
  rintro e w1 ⟨rfl, b1⟩
  go_wp2_with fail
  go_ret2
  exact ⟨rfl, chain B0.out b1⟩
set_option maxHeartbeats 8000000 in
theorem vaLength_no (p q pa pk fp : Option Addr) (ln lc cn cc na ca nk ck fl fc : Nat) (id kind n3 : Int) (n0 n1 z0 z8 s : ByteArray) (z1 z2 z3 z4 z5 z6 z7 : Bool) (w : World) (name : ByteArray) (ax : List (ByteArray × ByteArray)) (hv : AttrsV w (.slice pa na ca) ax) (hl : ax.length ≤ 4398046511104) (hn : (appB kind name && (findA ax name).isSome) = false) :
    Calls Tryz.prog 83 #[.agg #[.slice p ln lc, .slice q cn cc, .int .i64 id, .int .i64 kind, .string n0, .string n1, .slice pa na ca, .int .i64 n3, .slice pk nk ck, .string z0, .bool z1, .bool z2, .bool z3, .bool z4, .bool z5, .bool z6, .bool z7, .string z8, .slice fp fl fc, .string s], .string name] w fun e w' => e = .returned (.tuple #[.int .i64 0, .bool false]) ∧ Below w.heap.size w w' := by
  have HT := hide (fun W (hb : Below w.heap.size w W) => vaTold_no p q pa pk fp ln lc cn cc na ca nk ck fl fc id kind n3 n0 n1 z0 z8 s z1 z2 z3 z4 z5 z6 z7 W name ax (hv.below hb) hl hn)
  clear hv hl hn
  have B0 : Hid (Below w.heap.size w (w.alloc (.cells #[.slice p ln lc, .slice q cn cc, .int .i64 id, .int .i64 kind, .string n0, .string n1, .slice pa na ca, .int .i64 n3, .slice pk nk ck, .string z0, .bool z1, .bool z2, .bool z3, .bool z4, .bool z5, .bool z6, .bool z7, .string z8, .slice fp fl fc, .string s] 62))) := (Below.refl _ w).alloc (Nat.le_refl _) _
  have KB := hide (Bk.new w [.slice p ln lc, .slice q cn cc, .int .i64 id, .int .i64 kind, .string n0, .string n1, .slice pa na ca, .int .i64 n3, .slice pk nk ck, .string z0, .bool z1, .bool z2, .bool z3, .bool z4, .bool z5, .bool z6, .bool z7, .string z8, .slice fp fl fc, .string s] 62)
  go_enter Tryz.func83, Tryz.ntmps83
  go_upto_region 1 with fail
  generalize (w.alloc (.cells #[.slice p ln lc, .slice q cn cc, .int .i64 id, .int .i64 kind, .string n0, .string n1, .slice pa na ca, .int .i64 n3, .slice pk nk ck, .string z0, .bool z1, .bool z2, .bool z3, .bool z4, .bool z5, .bool z6, .bool z7, .string z8, .slice fp fl fc, .string s] 62)) = w0 at *
  have RA := hide KB.out.range
  go_wp2_with (refine wpList_load_mid rfl 62 _ rfl _ 0 rfl _ _ RA.out Tryz.underlying62 rfl rfl ?_)
  refine (HT.out _ B0.out).mono ?_
  rintro e w1 ⟨rfl, b1⟩
  go_wp2_with fail
  go_ret2
  exact ⟨rfl, chain B0.out b1⟩
set_option maxHeartbeats 8000000 in
theorem vaTooLong_no (p q pa pk fp : Option Addr) (ln lc cn cc na ca nk ck fl fc : Nat) (id kind n3 : Int) (n0 n1 z0 z8 s : ByteArray) (z1 z2 z3 z4 z5 z6 z7 : Bool) (w : World) (ax : List (ByteArray × ByteArray)) (hv : AttrsV w (.slice pa na ca) ax) (hl : ax.length ≤ 4398046511104) (hn : (appB kind ⟨#[109, 97, 120, 108, 101, 110, 103, 116, 104]⟩ && (findA ax ⟨#[109, 97, 120, 108, 101, 110, 103, 116, 104]⟩).isSome) = false) :
    Calls Tryz.prog 45 #[.agg #[.slice p ln lc, .slice q cn cc, .int .i64 id, .int .i64 kind, .string n0, .string n1, .slice pa na ca, .int .i64 n3, .slice pk nk ck, .string z0, .bool z1, .bool z2, .bool z3, .bool z4, .bool z5, .bool z6, .bool z7, .string z8, .slice fp fl fc, .string s]] w fun e w' => e = .returned (.bool false) ∧ Below w.heap.size w w' := by
  have HT := hide (fun W (hb : Below w.heap.size w W) => vaLength_no p q pa pk fp ln lc cn cc na ca nk ck fl fc id kind n3 n0 n1 z0 z8 s z1 z2 z3 z4 z5 z6 z7 W ⟨#[109, 97, 120, 108, 101, 110, 103, 116, 104]⟩ ax (hv.below hb) hl hn)
  clear hv hl hn
  have B0 : Hid (Below w.heap.size w (w.alloc (.cells #[.slice p ln lc, .slice q cn cc, .int .i64 id, .int .i64 kind, .string n0, .string n1, .slice pa na ca, .int .i64 n3, .slice pk nk ck, .string z0, .bool z1, .bool z2, .bool z3, .bool z4, .bool z5, .bool z6, .bool z7, .string z8, .slice fp fl fc, .string s] 62))) := (Below.refl _ w).alloc (Nat.le_refl _) _
  have KB := hide (Bk.new w [.slice p ln lc, .slice q cn cc, .int .i64 id, .int .i64 kind, .string n0, .string n1, .slice pa na ca, .int .i64 n3, .slice pk nk ck, .string z0, .bool z1, .bool z2, .bool z3, .bool z4, .bool z5, .bool z6, .bool z7, .string z8, .slice fp fl fc, .string s] 62)
  go_enter Tryz.func45, Tryz.ntmps45
  go_upto_region 1 with fail
  generalize (w.alloc (.cells #[.slice p ln lc, .slice q cn cc, .int .i64 id, .int .i64 kind, .string n0, .string n1, .slice pa na ca, .int .i64 n3, .slice pk nk ck, .string z0, .bool z1, .bool z2, .bool z3, .bool z4, .bool z5, .bool z6, .bool z7, .string z8, .slice fp fl fc, .string s] 62)) = w0 at *
  have RA := hide KB.out.range
  go_wp2_with (refine wpList_load_mid rfl 62 _ rfl _ 0 rfl _ _ RA.out Tryz.underlying62 rfl rfl ?_)
  refine (HT.out _ B0.out).mono ?_
  rintro e w1 ⟨rfl, b1⟩
  go_wp2_with fail
  go_ret
  exact ⟨rfl, chain B0.out b1⟩
set_option maxHeartbeats 8000000 in
theorem vaTooShort_no (p q pa pk fp : Option Addr) (ln lc cn cc na ca nk ck fl fc : Nat) (id kind n3 : Int) (n0 n1 z0 z8 s : ByteArray) (z1 z2 z3 z4 z5 z6 z7 : Bool) (w : World) (ax : List (ByteArray × ByteArray)) (hv : AttrsV w (.slice pa na ca) ax) (hl : ax.length ≤ 4398046511104) (hn : (appB kind ⟨#[109, 105, 110, 108, 101, 110, 103, 116, 104]⟩ && (findA ax ⟨#[109, 105, 110, 108, 101, 110, 103, 116, 104]⟩).isSome) = false) :
    Calls Tryz.prog 46 #[.agg #[.slice p ln lc, .slice q cn cc, .int .i64 id, .int .i64 kind, .string n0, .string n1, .slice pa na ca, .int .i64 n3, .slice pk nk ck, .string z0, .bool z1, .bool z2, .bool z3, .bool z4, .bool z5, .bool z6, .bool z7, .string z8, .slice fp fl fc, .string s]] w fun e w' => e = .returned (.bool false) ∧ Below w.heap.size w w' := by
  have HT := hide (fun W (hb : Below w.heap.size w W) => vaLength_no p q pa pk fp ln lc cn cc na ca nk ck fl fc id kind n3 n0 n1 z0 z8 s z1 z2 z3 z4 z5 z6 z7 W ⟨#[109, 105, 110, 108, 101, 110, 103, 116, 104]⟩ ax (hv.below hb) hl hn)
  clear hv hl hn
  have B0 : Hid (Below w.heap.size w (w.alloc (.cells #[.slice p ln lc, .slice q cn cc, .int .i64 id, .int .i64 kind, .string n0, .string n1, .slice pa na ca, .int .i64 n3, .slice pk nk ck, .string z0, .bool z1, .bool z2, .bool z3, .bool z4, .bool z5, .bool z6, .bool z7, .string z8, .slice fp fl fc, .string s] 62))) := (Below.refl _ w).alloc (Nat.le_refl _) _
  have KB := hide (Bk.new w [.slice p ln lc, .slice q cn cc, .int .i64 id, .int .i64 kind, .string n0, .string n1, .slice pa na ca, .int .i64 n3, .slice pk nk ck, .string z0, .bool z1, .bool z2, .bool z3, .bool z4, .bool z5, .bool z6, .bool z7, .string z8, .slice fp fl fc, .string s] 62)
  go_enter Tryz.func46, Tryz.ntmps46
  go_upto_region 1 with fail
  generalize (w.alloc (.cells #[.slice p ln lc, .slice q cn cc, .int .i64 id, .int .i64 kind, .string n0, .string n1, .slice pa na ca, .int .i64 n3, .slice pk nk ck, .string z0, .bool z1, .bool z2, .bool z3, .bool z4, .bool z5, .bool z6, .bool z7, .string z8, .slice fp fl fc, .string s] 62)) = w0 at *
  have RA := hide KB.out.range
  go_wp2_with (refine wpList_load_mid rfl 62 _ rfl _ 0 rfl _ _ RA.out Tryz.underlying62 rfl rfl ?_)
  refine (HT.out _ B0.out).mono ?_
  rintro e w1 ⟨rfl, b1⟩
  go_wp2_with fail
  go_ret
  exact ⟨rfl, chain B0.out b1⟩
set_option maxHeartbeats 8000000 in
theorem vaOffPattern_no (p q pa pk fp : Option Addr) (ln lc cn cc na ca nk ck fl fc : Nat) (id kind n3 : Int) (n0 n1 z0 z8 s : ByteArray) (z1 z2 z3 z4 z5 z6 z7 : Bool) (w : World) (ax : List (ByteArray × ByteArray)) (hv : AttrsV w (.slice pa na ca) ax) (hl : ax.length ≤ 4398046511104) (hn : (appB kind ⟨#[112, 97, 116, 116, 101, 114, 110]⟩ && (findA ax ⟨#[112, 97, 116, 116, 101, 114, 110]⟩).isSome) = false) :
    Calls Tryz.prog 44 #[.agg #[.slice p ln lc, .slice q cn cc, .int .i64 id, .int .i64 kind, .string n0, .string n1, .slice pa na ca, .int .i64 n3, .slice pk nk ck, .string z0, .bool z1, .bool z2, .bool z3, .bool z4, .bool z5, .bool z6, .bool z7, .string z8, .slice fp fl fc, .string s]] w fun e w' => e = .returned (.bool false) ∧ Below w.heap.size w w' := by
  have HT := hide (fun W (hb : Below w.heap.size w W) => vaTold_no p q pa pk fp ln lc cn cc na ca nk ck fl fc id kind n3 n0 n1 z0 z8 s z1 z2 z3 z4 z5 z6 z7 W ⟨#[112, 97, 116, 116, 101, 114, 110]⟩ ax (hv.below hb) hl hn)
  clear hv hl hn
  have B0 : Hid (Below w.heap.size w (w.alloc (.cells #[.slice p ln lc, .slice q cn cc, .int .i64 id, .int .i64 kind, .string n0, .string n1, .slice pa na ca, .int .i64 n3, .slice pk nk ck, .string z0, .bool z1, .bool z2, .bool z3, .bool z4, .bool z5, .bool z6, .bool z7, .string z8, .slice fp fl fc, .string s] 62))) := (Below.refl _ w).alloc (Nat.le_refl _) _
  have KB := hide (Bk.new w [.slice p ln lc, .slice q cn cc, .int .i64 id, .int .i64 kind, .string n0, .string n1, .slice pa na ca, .int .i64 n3, .slice pk nk ck, .string z0, .bool z1, .bool z2, .bool z3, .bool z4, .bool z5, .bool z6, .bool z7, .string z8, .slice fp fl fc, .string s] 62)
  go_enter Tryz.func44, Tryz.ntmps44
  go_upto_region 1 with fail
  generalize (w.alloc (.cells #[.slice p ln lc, .slice q cn cc, .int .i64 id, .int .i64 kind, .string n0, .string n1, .slice pa na ca, .int .i64 n3, .slice pk nk ck, .string z0, .bool z1, .bool z2, .bool z3, .bool z4, .bool z5, .bool z6, .bool z7, .string z8, .slice fp fl fc, .string s] 62)) = w0 at *
  have RA := hide KB.out.range
  go_wp2_with (refine wpList_load_mid rfl 62 _ rfl _ 0 rfl _ _ RA.out Tryz.underlying62 rfl rfl ?_)
  refine (HT.out _ B0.out).mono ?_
  rintro e w1 ⟨rfl, b1⟩
  go_wp2_with fail
  go_ret
  exact ⟨rfl, (chain B0.out b1).alloc (chain B0.out b1).size _⟩
set_option maxHeartbeats 8000000 in
theorem vaOffType_empty (p q pa pk fp : Option Addr) (ln lc cn cc na ca nk ck fl fc : Nat) (id kind n3 : Int) (n0 n1 z0 z8 s : ByteArray) (z1 z2 z3 z4 z5 z6 z7 : Bool) (w : World) (he : s = ⟨#[]⟩) :
    Calls Tryz.prog 43 #[.agg #[.slice p ln lc, .slice q cn cc, .int .i64 id, .int .i64 kind, .string n0, .string n1, .slice pa na ca, .int .i64 n3, .slice pk nk ck, .string z0, .bool z1, .bool z2, .bool z3, .bool z4, .bool z5, .bool z6, .bool z7, .string z8, .slice fp fl fc, .string s]] w fun e w' => e = .returned (.bool false) ∧ Below w.heap.size w w' := by
  subst he
  have B0 : Hid (Below w.heap.size w (w.alloc (.cells #[.slice p ln lc, .slice q cn cc, .int .i64 id, .int .i64 kind, .string n0, .string n1, .slice pa na ca, .int .i64 n3, .slice pk nk ck, .string z0, .bool z1, .bool z2, .bool z3, .bool z4, .bool z5, .bool z6, .bool z7, .string z8, .slice fp fl fc, .string ⟨#[]⟩] 62))) := (Below.refl _ w).alloc (Nat.le_refl _) _
  have KB := hide (Bk.new w [.slice p ln lc, .slice q cn cc, .int .i64 id, .int .i64 kind, .string n0, .string n1, .slice pa na ca, .int .i64 n3, .slice pk nk ck, .string z0, .bool z1, .bool z2, .bool z3, .bool z4, .bool z5, .bool z6, .bool z7, .string z8, .slice fp fl fc, .string ⟨#[]⟩] 62)
  go_enter Tryz.func43, Tryz.ntmps43
  go_upto_region 1 with fail
  generalize (w.alloc (.cells #[.slice p ln lc, .slice q cn cc, .int .i64 id, .int .i64 kind, .string n0, .string n1, .slice pa na ca, .int .i64 n3, .slice pk nk ck, .string z0, .bool z1, .bool z2, .bool z3, .bool z4, .bool z5, .bool z6, .bool z7, .string z8, .slice fp fl fc, .string ⟨#[]⟩] 62)) = w0 at *
  obtain ⟨x0, x1, x2, x3, x4, x5, x6, x7, x8, x9, x10, x11, x12, x13, x14, x15, x16, x17, x18, x19⟩ := ask_cells KB.out
  go_wp2_with fail
  go_ret
  exact ⟨rfl, B0.out⟩
set_option maxHeartbeats 8000000 in
theorem vaMissing_text (p q pa pk fp : Option Addr) (ln lc cn cc na ca nk ck fl fc : Nat) (id kind n3 : Int) (n0 n1 z0 z8 s : ByteArray) (z1 z2 z3 z4 z5 z6 z7 : Bool) (w : World) (fx : Bool) (l : List Nd) (m : Nat) (ax : List (ByteArray × ByteArray)) (hv : AttrsV w (.slice pa na ca) ax) (hl : ax.length ≤ 4398046511104) (hd : NodesV w (.slice p ln lc) l) (hz : DocSz l) (hT : KTabs w) (hm : m < l.length) (ei : id = (m : Int)) (ef : fixB l (m : Int) = fx) (hk : ¬ kind = 17 ∧ ¬ kind = 16 ∧ ¬ kind = 18 ∧ ¬ kind = 23) (ha : appB kind ⟨#[114, 101, 113, 117, 105, 114, 101, 100]⟩ = true) (hn : (findA ax ⟨#[114, 101, 113, 117, 105, 114, 101, 100]⟩).isSome = true) (he : s = ⟨#[]⟩) :
    Calls Tryz.prog 42 #[.agg #[.slice p ln lc, .slice q cn cc, .int .i64 id, .int .i64 kind, .string n0, .string n1, .slice pa na ca, .int .i64 n3, .slice pk nk ck, .string z0, .bool z1, .bool z2, .bool z3, .bool z4, .bool z5, .bool z6, .bool z7, .string z8, .slice fp fl fc, .string s]] w fun e w' => e = .returned (.bool (!fx)) ∧ Below w.heap.size w w' := by
  have HT := hide (fun W (hb : Below w.heap.size w W) => vaTold_yes p q pa pk fp ln lc cn cc na ca nk ck fl fc id kind n3 n0 n1 z0 z8 s z1 z2 z3 z4 z5 z6 z7 W ⟨#[114, 101, 113, 117, 105, 114, 101, 100]⟩ ax (hv.below hb) hl ha hn)
  have HC := hide (fun W (hb : Below w.heap.size w W) => vaCanBe_any (.slice p ln lc) l m W (hd.below hb) hz (hT.below hb) hm)
  rw [ef] at HC
  obtain ⟨k1, k2, k3, k4⟩ := hk
  have q1 : (kind == 17) = false := beq_eq_false_iff_ne.2 k1
  have q2 : (kind == 16) = false := beq_eq_false_iff_ne.2 k2
  have q3 : (kind == 18) = false := beq_eq_false_iff_ne.2 k3
  have q4 : (kind == 23) = false := beq_eq_false_iff_ne.2 k4
  subst ei he
  clear hv hl hn ha hd hz hT hm ef
  generalize fndS ax ⟨#[114, 101, 113, 117, 105, 114, 101, 100]⟩ = fs at *
  have B0 : Hid (Below w.heap.size w (w.alloc (.cells #[.slice p ln lc, .slice q cn cc, .int .i64 (m : Int), .int .i64 kind, .string n0, .string n1, .slice pa na ca, .int .i64 n3, .slice pk nk ck, .string z0, .bool z1, .bool z2, .bool z3, .bool z4, .bool z5, .bool z6, .bool z7, .string z8, .slice fp fl fc, .string ⟨#[]⟩] 62))) := (Below.refl _ w).alloc (Nat.le_refl _) _
  have KB := hide (Bk.new w [.slice p ln lc, .slice q cn cc, .int .i64 (m : Int), .int .i64 kind, .string n0, .string n1, .slice pa na ca, .int .i64 n3, .slice pk nk ck, .string z0, .bool z1, .bool z2, .bool z3, .bool z4, .bool z5, .bool z6, .bool z7, .string z8, .slice fp fl fc, .string ⟨#[]⟩] 62)
  go_enter Tryz.func42, Tryz.ntmps42
  go_upto_region 1 with fail
  generalize (w.alloc (.cells #[.slice p ln lc, .slice q cn cc, .int .i64 (m : Int), .int .i64 kind, .string n0, .string n1, .slice pa na ca, .int .i64 n3, .slice pk nk ck, .string z0, .bool z1, .bool z2, .bool z3, .bool z4, .bool z5, .bool z6, .bool z7, .string z8, .slice fp fl fc, .string ⟨#[]⟩] 62)) = w0 at *
  have x3 := KB.out.cell 3 rfl
  have RA := hide KB.out.range
  go_wp2_with (refine wpList_load_mid rfl 62 _ rfl _ 0 rfl _ _ RA.out Tryz.underlying62 rfl rfl ?_)
  refine (HT.out _ B0.out).mono ?_
  rintro e w1 ⟨rfl, b1⟩
  have B1 := hide (chain B0.out b1)
  replace KB := hide (KB.out.below b1)
  clear b1 B0 x3 RA
  have x0 := KB.out.cell 0 rfl
  have x2 := KB.out.cell 2 rfl
  have x3 := KB.out.cell 3 rfl
  have x19 := KB.out.cell 19 rfl
  go_wp2_with fail
  refine (HC.out _ B1.out).mono ?_
  rintro e w2 ⟨rfl, b2⟩
  go_wp2_with fail
  go_ret
  exact ⟨rfl, chain B1.out b2⟩
theorem addr_neV {b b' o o' : Nat} (h : b ≠ b') : (⟨b, o, none⟩ : Addr) ≠ ⟨b', o', none⟩ := fun e => h (by cases e; rfl)
/-- Where flags are put together: what is asked in its block, the flags in theirs. -/
structure FlW (w0 w : World) (K Fb : Nat) (cs : List Value) (f : Int) : Prop where
  ask : w.rangeAt K 0 cs
  fl : Bk w Fb [.int .i64 f] 3
  bel : Below w0.heap.size w0 w
  fb : w0.heap.size ≤ Fb
  ne : Fb ≠ K
theorem FlW.step {w0 w w' : World} {K Fb : Nat} {cs : List Value} {f : Int} (h : FlW w0 w K Fb cs f) (b : Below w.heap.size w w') : FlW w0 w' K Fb cs f :=
  ⟨fun j v hv => cell_below (h.ask j v hv) b, h.fl.below b, chain h.bel b, h.fb, h.ne⟩
set_option maxHeartbeats 8000000 in
theorem vaPut_any {w0 : World} {K : Nat} {cs : List Value} (f g : Int) (h : Bool) (Bl : Nat) (w : World) (hF : FlW w0 w K Bl cs f) :
    Calls Tryz.prog 41 #[.int .i64 g, .bool h, .pointer (some ⟨Bl, 0, none⟩)] w fun e w' => e = .returned (.tuple #[]) ∧ FlW w0 w' K Bl cs (if h = true then bits .or .i64 f g else f) := by
  have c0 := hF.fl.cell 0 rfl
  have f0 := hF.fl.free 0
  have HF := hide hF
  clear hF
  cases h with
  | false =>
    go_enter Tryz.func41, Tryz.ntmps41
    go_wp2_with fail
    go_end0
    exact ⟨rfl, HF.out⟩
  | true =>
    go_enter Tryz.func41, Tryz.ntmps41
    go_wp2_with fail
    go_end0
    exact ⟨rfl, fun j v hv => (World.cell?_setCell_other _ _ _ _ (addr_neV HF.out.ne)).trans (HF.out.ask j v hv), HF.out.fl.set 0 _, HF.out.bel.setCell HF.out.fb _, HF.out.fb, HF.out.ne⟩

end Go.Proofs.YtlppocdhfeejkaaGreatDoor
