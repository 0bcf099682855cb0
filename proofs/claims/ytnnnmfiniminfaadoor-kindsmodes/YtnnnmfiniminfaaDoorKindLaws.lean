/- The statements of layer 11 walked. Conditions: the program's tables read as its text lays them; rows and texts of at most 2^47 bytes. -/
import Derived.Test.YtnnnmfiniminfaaDoorKindO
import Derived.Test.YtnnnmfiniminfaaDoorKindR
import Derived.Test.YtnnnmfiniminfaaDoorKindMR
import Derived.Test.YtnnnmfiniminfaaDoorKindAR
import Derived.Deep.RegionHeld3
namespace Go.Proofs.YtnnnmfiniminfaaDoor
open Go.RowKit

theorem belD {B : Nat} {a w : World} (h : Below B a w) (n : Nat) : Below B a (w.drewN n) := ⟨h.os, h.tape, h.output, h.size, h.block⟩
theorem undrewK {w w' : World} {m : Nat} (h : Below (w.drewN m).heap.size (w.drewN m) w') : Below w.heap.size w w' := ⟨h.os, h.tape, h.output, h.size, h.block⟩
theorem attrs_one (w : World) (a b : ByteArray) : AttrsV (w.alloc (.cells #[.string a, .string b] 31)) (.slice (some ⟨w.heap.size, 0, none⟩) 1 1) [(a, b)] := by
  refine ⟨_, 1, rfl, .inr ⟨w.heap.size, 0, rfl, fun i h => ?_⟩⟩
  obtain rfl : i = 0 := by simpa using h
  exact ⟨by simp, by simp⟩
theorem ty_one (s : ByteArray) : tyOf [(tyS, s)] = some (lowS s) := by
  unfold tyOf findA
  simp [List.getD]
/-- An input with one attribute, its type. -/
theorem of_one (s : ByteArray) (hs : s.size ≤ 140737488351232) (w : World) (hT : KTabs w) :
    Calls Tryd.prog 9 #[.agg #[.string ⟨#[105, 110, 112, 117, 116]⟩, .string ⟨#[]⟩, .slice (some ⟨w.heap.size, 0, none⟩) 1 1, .int .i64 0, .slice none 0 0]] (w.alloc (.cells #[.string ⟨#[116, 121, 112, 101]⟩, .string s] 31)) fun e w' => e = .returned (.int .i64 (kInt (seekR (lowS s) 1 22 30 0) 2)) ∧ Below w.heap.size w w' := by
  have b0 : Below w.heap.size w (w.alloc (.cells #[.string ⟨#[116, 121, 112, 101]⟩, .string s] 31)) := (Below.refl _ w).alloc (Nat.le_refl _) _
  have h := of_any ⟨⟨#[105, 110, 112, 117, 116]⟩, ⟨#[]⟩, [(tyS, s)], 0, []⟩ (.slice (some ⟨w.heap.size, 0, none⟩) 1 1) (.slice none 0 0) _ (hT.below b0) (attrs_one w tyS s) (by simp) (fun a q => by rw [List.mem_singleton.1 q]; exact hs)
  rw [show kOf (Nd.name ⟨⟨#[105, 110, 112, 117, 116]⟩, ⟨#[]⟩, [(tyS, s)], 0, []⟩) (tyOf (Nd.attrs ⟨⟨#[105, 110, 112, 117, 116]⟩, ⟨#[]⟩, [(tyS, s)], 0, []⟩)) = kInt (seekR (lowS s) 1 22 30 0) 2 from by
    show kOf ⟨#[105, 110, 112, 117, 116]⟩ (tyOf [(tyS, s)]) = _
    rw [ty_one]; rfl] at h
  exact h.mono fun e w' ⟨he, hb⟩ => ⟨he, chain b0 hb⟩
theorem radio_17 : kInt (seekR (lowS ⟨#[82, 97, 68, 105, 79]⟩) 1 22 30 0) 2 = 17 := by decide +kernel
theorem min_8 : appB 8 ⟨#[109, 105, 110]⟩ = true := by decide +kernel
theorem mode_18 : modeV 18 = 4 := by decide +kernel
set_option maxHeartbeats 4000000 in
set_option maxRecDepth 100000 in
theorem kwakes_any (w : World) (hT : KTabs w) :
    Calls Tryd.prog 8 #[] w fun e w' => e = .returned (.bool true) ∧ Below w.heap.size w w' := by
  have HO := hide (of_one ⟨#[82, 97, 68, 105, 79]⟩ (by decide) w hT)
  rw [radio_17] at HO
  have HA := hide (applies_any 8 ⟨#[109, 105, 110]⟩)
  rw [min_8] at HA
  clear hT
  go_enter Tryd.func8, Tryd.ntmps8
  go_wp2_with fail
  refine HO.out.mono ?_
  rintro e w1 ⟨rfl, b1⟩
  go_wp2_with fail
  refine (HA.out _).mono ?_
  rintro e w2 ⟨rfl, hu⟩
  obtain rfl : w1 = w2 := hu.symm
  go_wp2_with fail
  go_ret
  exact ⟨rfl, b1⟩

set_option maxHeartbeats 4000000 in
set_option maxRecDepth 100000 in
theorem kindsModes_walk (k : Int) (w : World) (hT : KTabs w) :
    Calls Tryd.prog 5 #[.int .i64 k] w fun e w' => e = .returned (.bool true) ∧ Below w.heap.size w w' := by
  have HW := hide (kwakes_any w hT)
  clear hT
  have H1 := hide (mode_any 18)
  rw [mode_18] at H1
  have H2 := hide (mode_any k)
  have H3 := hide (refMode_any k)
  generalize modeV k = m at *
  go_enter Tryd.func5, Tryd.ntmps5
  go_wp2_with fail
  refine HW.out.mono ?_
  rintro e w1 ⟨rfl, b1⟩
  go_wp2_with fail
  refine (H1.out _).mono ?_
  rintro e p0 ⟨rfl, hp0⟩
  obtain rfl : w1 = p0 := hp0.symm
  go_wp2_with fail
  refine (H2.out _).mono ?_
  rintro e p1 ⟨rfl, hp1⟩
  obtain rfl : w1 = p1 := hp1.symm
  go_wp2_with fail
  refine (H3.out _).mono ?_
  rintro e q1 ⟨rfl, hq1⟩
  obtain rfl : w1 = q1 := hq1.symm
  go_wp2_with fail
  go_ret
  exact ⟨rfl, b1⟩

set_option maxHeartbeats 4000000 in
set_option maxRecDepth 100000 in
theorem kindsAsks_walk (k : Int) (w : World) (hT : KTabs w) :
    Calls Tryd.prog 6 #[.int .i64 k] w fun e w' => e = .returned (.bool true) ∧ Below w.heap.size w w' := by
  have HW := hide (kwakes_any w hT)
  clear hT
  have P1 := hide (listed_any k)
  have R1 := hide (refIs_1 k)
  generalize listB k = m1 at *
  have P2 := hide (submits_any k)
  have R2 := hide (refIs_2 k)
  generalize subB k = m2 at *
  have P3 := hide (resets_any k)
  have R3 := hide (refIs_3 k)
  generalize resB k = m3 at *
  have P4 := hide (labels_any k)
  have R4 := hide (refIs_4 k)
  generalize labB k = m4 at *
  have P5 := hide (fires_any k)
  have R5 := hide (refIs_5 k)
  generalize fireB k = m5 at *
  have P6 := hide (blocks_any k)
  have R6 := hide (refIs_6 k)
  generalize blockB k = m6 at *
  have P7 := hide (pairs_any k)
  have R7 := hide (refIs_7 k)
  generalize pairB k = m7 at *
  go_enter Tryd.func6, Tryd.ntmps6
  go_wp2_with fail
  refine HW.out.mono ?_
  rintro e w1 ⟨rfl, b1⟩
  go_wp2_with fail
  refine (P1.out _).mono ?_
  rintro e p1 ⟨rfl, hp1⟩
  obtain rfl : w1 = p1 := hp1.symm
  go_wp2_with fail
  refine (R1.out _).mono ?_
  rintro e q1 ⟨rfl, hq1⟩
  obtain rfl : w1 = q1 := hq1.symm
  go_wp2_with fail
  refine (P2.out _).mono ?_
  rintro e p2 ⟨rfl, hp2⟩
  obtain rfl : w1 = p2 := hp2.symm
  go_wp2_with fail
  refine (R2.out _).mono ?_
  rintro e q2 ⟨rfl, hq2⟩
  obtain rfl : w1 = q2 := hq2.symm
  go_wp2_with fail
  refine (P3.out _).mono ?_
  rintro e p3 ⟨rfl, hp3⟩
  obtain rfl : w1 = p3 := hp3.symm
  go_wp2_with fail
  refine (R3.out _).mono ?_
  rintro e q3 ⟨rfl, hq3⟩
  obtain rfl : w1 = q3 := hq3.symm
  go_wp2_with fail
  refine (P4.out _).mono ?_
  rintro e p4 ⟨rfl, hp4⟩
  obtain rfl : w1 = p4 := hp4.symm
  go_wp2_with fail
  refine (R4.out _).mono ?_
  rintro e q4 ⟨rfl, hq4⟩
  obtain rfl : w1 = q4 := hq4.symm
  go_wp2_with fail
  refine (P5.out _).mono ?_
  rintro e p5 ⟨rfl, hp5⟩
  obtain rfl : w1 = p5 := hp5.symm
  go_wp2_with fail
  refine (R5.out _).mono ?_
  rintro e q5 ⟨rfl, hq5⟩
  obtain rfl : w1 = q5 := hq5.symm
  go_wp2_with fail
  refine (P6.out _).mono ?_
  rintro e p6 ⟨rfl, hp6⟩
  obtain rfl : w1 = p6 := hp6.symm
  go_wp2_with fail
  refine (R6.out _).mono ?_
  rintro e q6 ⟨rfl, hq6⟩
  obtain rfl : w1 = q6 := hq6.symm
  go_wp2_with fail
  refine (P7.out _).mono ?_
  rintro e p7 ⟨rfl, hp7⟩
  obtain rfl : w1 = p7 := hp7.symm
  go_wp2_with fail
  refine (R7.out _).mono ?_
  rintro e q7 ⟨rfl, hq7⟩
  obtain rfl : w1 = q7 := hq7.symm
  go_wp2_with fail
  go_ret
  exact ⟨rfl, b1⟩

set_option maxHeartbeats 4000000 in
set_option maxRecDepth 100000 in
theorem kindsApplies_walk (k : Int) (a : ByteArray) (w : World) (hT : KTabs w) :
    Calls Tryd.prog 7 #[.int .i64 k, .string a] w fun e w' => e = .returned (.bool true) ∧ Below w.heap.size w w' := by
  have HW := hide (kwakes_any w hT)
  clear hT
  have H2 := hide (applies_any k a)
  have H3 := hide (refApplies_any k a)
  generalize appB k a = m at *
  go_enter Tryd.func7, Tryd.ntmps7
  go_wp2_with fail
  refine HW.out.mono ?_
  rintro e w1 ⟨rfl, b1⟩
  go_wp2_with fail
  refine (H2.out _).mono ?_
  rintro e p1 ⟨rfl, hp1⟩
  obtain rfl : w1 = p1 := hp1.symm
  go_wp2_with fail
  refine (H3.out _).mono ?_
  rintro e q1 ⟨rfl, hq1⟩
  obtain rfl : w1 = q1 := hq1.symm
  go_wp2_with fail
  go_ret
  exact ⟨rfl, b1⟩

theorem type_back (k : Int) : (kInt (seekR (lowS (typeS k)) 1 22 30 0) 2 == k) = decide (1 ≤ k ∧ k ≤ 22) := by
  by_cases h : 0 ≤ k ∧ k ≤ 29
  · obtain ⟨n, rfl⟩ : ∃ n : Nat, k = (n : Int) := ⟨k.toNat, by omega⟩
    have hn : n < 30 := by omega
    rw [typeS_nat hn]
    have : ∀ n : Fin 30, (kInt (seekR (lowS (typeN n.val)) 1 22 30 0) 2 == (n.val : Int)) = decide (1 ≤ (n.val : Int) ∧ (n.val : Int) ≤ 22) := by decide +kernel
    exact this ⟨n, hn⟩
  · have e : typeS k = ⟨#[]⟩ := if_neg h
    have e2 : kInt (seekR (lowS ⟨#[]⟩) 1 22 30 0) 2 = 2 := by decide +kernel
    rw [e, e2, decide_eq_false (by omega), beq_eq_false_iff_ne]
    omega
theorem typeS_small (k : Int) : (typeS k).size ≤ 14 := by
  unfold typeS
  split
  · exact typeN_small _ (by omega)
  · decide
set_option maxHeartbeats 4000000 in
set_option maxRecDepth 100000 in
theorem kindsTypes_walk (k : Int) (w : World) (hT : KTabs w) :
    Calls Tryd.prog 4 #[.int .i64 k] w fun e w' => e = .returned (.bool true) ∧ Below w.heap.size w w' := by
  have HW := hide (fun W hT => kwakes_any W hT)
  have H1 := hide (type_any k w hT)
  have H2 := hide (refType_any k)
  have HO := hide (fun W hT => of_one (typeS k) (by have := typeS_small k; omega) W hT)
  have TB := hide (type_back k)
  have HT := hide hT
  clear hT
  generalize kInt (seekR (lowS (typeS k)) 1 22 30 0) 2 = r at *
  generalize typeS k = s at *
  go_enter Tryd.func4, Tryd.ntmps4
  go_wp2_with fail
  refine H1.out.mono ?_
  rintro e w1 ⟨rfl, b1⟩
  go_wp2_with fail
  refine (HW.out _ (HT.out.below b1)).mono ?_
  rintro e w2 ⟨rfl, b2⟩
  have B2 := hide (chain b1 b2)
  go_wp2_with fail
  refine (H2.out _).mono ?_
  rintro e w3 ⟨rfl, h3⟩
  obtain rfl : w2 = w3 := h3.symm
  clear b1 b2
  go_wp2_with fail
  refine (HO.out _ (HT.out.below B2.out)).mono ?_
  rintro e w4 ⟨rfl, b4⟩
  have B4 := hide (chain B2.out b4)
  clear b4
  by_cases h1 : 1 ≤ k
  · by_cases h2 : k ≤ 22
    · have q : (r == k) = true := by rw [TB.out]; exact decide_eq_true ⟨h1, h2⟩
      go_wp2_with fail
      go_ret
      exact ⟨rfl, B4.out⟩
    · have q : (r == k) = false := by rw [TB.out]; exact decide_eq_false (fun t => h2 t.2)
      have d2 : decide (k ≤ 22) = false := decide_eq_false h2
      go_wp2_with fail
      go_ret
      exact ⟨rfl, B4.out⟩
  · have q : (r == k) = false := by rw [TB.out]; exact decide_eq_false (fun t => h1 t.1)
    have d1 : decide (1 ≤ k) = false := decide_eq_false h1
    go_wp2_with fail
    go_ret
    exact ⟨rfl, B4.out⟩

set_option maxHeartbeats 4000000 in
set_option maxRecDepth 100000 in
theorem kindsOf_walk (n : Nd) (va vk : Value) (w : World) (hT : KTabs w) (ha : AttrsV w va n.attrs) (hl : n.attrs.length ≤ 4398046511104) (hs : ∀ a ∈ n.attrs, a.2.size ≤ 140737488351232) :
    Calls Tryd.prog 3 #[.agg #[.string n.name, .string n.text, va, .int .i64 n.parent, vk]] w fun e w' => e = .returned (.bool true) ∧ Below w.heap.size w w' := by
  have B0 : Hid (Below w.heap.size w (w.alloc (.cells #[.string n.name, .string n.text, va, .int .i64 n.parent, vk] 25))) := (Below.refl _ w).alloc (Nat.le_refl _) _
  have HW := hide (fun W (hb : Below w.heap.size w W) => kwakes_any W (hT.below hb))
  have H1 := hide (fun W (hb : Below w.heap.size w W) => of_any n va vk W (hT.below hb) (ha.below hb) hl hs)
  have H2 := hide (fun W (hb : Below w.heap.size w W) => refOf_any n va vk W (ha.below hb) hl hs)
  generalize kOf n.name (tyOf n.attrs) = r at *
  have k0 : (w.alloc (.cells #[.string n.name, .string n.text, va, .int .i64 n.parent, vk] 25)).cell? ⟨w.heap.size, 0, none⟩ = some (.string n.name) := by simp
  have k1 : (w.alloc (.cells #[.string n.name, .string n.text, va, .int .i64 n.parent, vk] 25)).cell? ⟨w.heap.size, 1, none⟩ = some (.string n.text) := by simp
  have k2 : (w.alloc (.cells #[.string n.name, .string n.text, va, .int .i64 n.parent, vk] 25)).cell? ⟨w.heap.size, 2, none⟩ = some (va) := by simp
  have k3 : (w.alloc (.cells #[.string n.name, .string n.text, va, .int .i64 n.parent, vk] 25)).cell? ⟨w.heap.size, 3, none⟩ = some (.int .i64 n.parent) := by simp
  have k4 : (w.alloc (.cells #[.string n.name, .string n.text, va, .int .i64 n.parent, vk] 25)).cell? ⟨w.heap.size, 4, none⟩ = some (vk) := by simp
  clear hT ha hl hs
  go_enter Tryd.func3, Tryd.ntmps3
  go_wp2_with fail
  generalize w.alloc (.cells #[.string n.name, .string n.text, va, .int .i64 n.parent, vk] 25) = w0 at *
  obtain ⟨nb, hnb⟩ : ∃ nb, Hid (w.heap.size = nb) := ⟨_, show _ = _ from rfl⟩
  have ln : w.heap.size < w0.heap.size := World.block_lt_of_cell? _ _ k0
  go_region_held3 (fun w' => w'.cell? ⟨w.heap.size, 0, none⟩ = some (.string n.name) ∧ w'.cell? ⟨w.heap.size, 1, none⟩ = some (.string n.text) ∧ w'.cell? ⟨w.heap.size, 2, none⟩ = some va ∧ w'.cell? ⟨w.heap.size, 3, none⟩ = some (.int .i64 n.parent) ∧ w'.cell? ⟨w.heap.size, 4, none⟩ = some vk) (first | go_keep | exact ⟨cell_below k0 U1.out, cell_below k1 U1.out, cell_below k2 U1.out, cell_below k3 U1.out, cell_below k4 U1.out⟩ | exact ⟨cell_below k0 U2.out, cell_below k1 U2.out, cell_below k2 U2.out, cell_below k3 U2.out, cell_below k4 U2.out⟩ | exact ⟨cell_below k0 U3.out, cell_below k1 U3.out, cell_below k2 U3.out, cell_below k3 U3.out, cell_below k4 U3.out⟩)
    (first | (go_at_call 8; refine (HW.out _ (belD B0.out 1)).mono ?_; rintro e w1 ⟨rfl, b1⟩; have U1 : Hid (Below w0.heap.size w0 w1) := undrewK b1; have B1 : Hid (Below w.heap.size w w1) := chain B0.out U1.out) | (go_at_call 9; refine (H1.out _ B1.out).mono ?_; rintro e w2 ⟨rfl, b2⟩; have U2 : Hid (Below w0.heap.size w0 w2) := chain U1.out b2; have B2 : Hid (Below w.heap.size w w2) := chain B1.out b2) | (go_at_call 10; refine (H2.out _ B2.out).mono ?_; rintro e w3 ⟨rfl, b3⟩; have U3 : Hid (Below w0.heap.size w0 w3) := chain U2.out b3; have B3 : Hid (Below w.heap.size w w3) := chain B2.out b3))
  go_wp2_with fail
  go_ret
  exact ⟨rfl, B3.out⟩

end Go.Proofs.YtnnnmfiniminfaaDoor
