/- The program's byType and Of of layer 11: they answer by the function of 'KindB'; what lay in the world lies there still. Conditions: the tables read as the program's text lays them; rows and texts of at most 2^47 bytes. -/
import Derived.Test.YtnnnmfiniminfaaDoorKindB
import Derived.Test.YtnnnmfiniminfaaDoorKindT
import Derived.Test.YtnnnmfiniminfaaDoorAttrF
import Derived.Test.YtnnnmfiniminfaaDoorLowWalks
import Derived.Deep.DeepCutAuto
namespace Go.Proofs.YtnnnmfiniminfaaDoor
open Go.RowKit

set_option maxHeartbeats 4000000 in
set_option maxRecDepth 100000 in
theorem byType1_any (x : ByteArray × ByteArray) (W : World) :
    Calls Tryd.prog 36 #[.agg #[.string x.1, .string x.2]] W fun e w' => e = .returned (.bool (isN tyS x)) ∧ Below W.heap.size W w' := by
  have E : Hid ((x.1.toList == [116, 121, 112, 101]) = isN tyS x) := lit_dec x.1 [116, 121, 112, 101]
  generalize isN tyS x = r at *
  generalize x.1 = a at *
  generalize x.2 = b at *
  go_enter Tryd.func36, Tryd.ntmps36
  go_wp2_with fail
  go_ret
  exact ⟨ret_bool E.out, (Below.refl _ W).alloc (Nat.le_refl _) _⟩
theorem entersBy : ∀ args w, (callFunc 36 args).run Tryd.prog w = .ok (.enter 36 args) w := Go.Proofs.enters_of Tryd.func36 (by kernel_rfl) rfl
theorem by_pred (w : World) : PredA 36 #[] (isN tyS) w := fun W x _ => byType1_any x W
set_option maxHeartbeats 4000000 in
set_option maxRecDepth 100000 in
theorem byType_any (n : Nd) (va vk : Value) (f l : Nat) (z : Int) (w : World) (hT : KTabs w) (ha : AttrsV w va n.attrs) (hl : n.attrs.length ≤ 4398046511104) (hs : ∀ a ∈ n.attrs, a.2.size ≤ 140737488351232) :
    Calls Tryd.prog 25 #[.agg #[.string n.name, .string n.text, va, .int .i64 n.parent, vk], .int .i64 (f : Int), .int .i64 (l : Int), .int .i64 z] w fun e w' => e = .returned (.int .i64 (byT (tyOf n.attrs) f l z)) ∧ Below w.heap.size w w' := by
  have B0 : Hid (Below w.heap.size w (w.alloc (.cells #[.string n.name, .string n.text, va, .int .i64 n.parent, vk] 25))) := (Below.refl _ w).alloc (Nat.le_refl _) _
  have k0 : (w.alloc (.cells #[.string n.name, .string n.text, va, .int .i64 n.parent, vk] 25)).cell? ⟨w.heap.size, 0, none⟩ = some (.string n.name) := by simp
  have k1 : (w.alloc (.cells #[.string n.name, .string n.text, va, .int .i64 n.parent, vk] 25)).cell? ⟨w.heap.size, 1, none⟩ = some (.string n.text) := by simp
  have k2 : (w.alloc (.cells #[.string n.name, .string n.text, va, .int .i64 n.parent, vk] 25)).cell? ⟨w.heap.size, 2, none⟩ = some (va) := by simp
  have k3 : (w.alloc (.cells #[.string n.name, .string n.text, va, .int .i64 n.parent, vk] 25)).cell? ⟨w.heap.size, 3, none⟩ = some (.int .i64 n.parent) := by simp
  have k4 : (w.alloc (.cells #[.string n.name, .string n.text, va, .int .i64 n.parent, vk] 25)).cell? ⟨w.heap.size, 4, none⟩ = some (vk) := by simp
  have HI := hide (indexFuncA_any va n.attrs (isN tyS) 36 #[] entersBy (w.alloc (.cells #[.string n.name, .string n.text, va, .int .i64 n.parent, vk] 25)) (ha.below B0.out) (by_pred _) hl)
  have HTW := hide hT
  have AV := hide (ha.below B0.out)
  have FE : Hid (n.attrs.findIdx? (isN tyS) = findA n.attrs tyS) := rfl
  rw [FE.out] at HI
  obtain ⟨p, c, rfl, hv⟩ := ha
  cases hf : findA n.attrs tyS with
  | none =>
    have E : Hid (byT (tyOf n.attrs) f l z = z) := by show _ = _; unfold tyOf; rw [hf]; rfl
    rw [hf] at HI
    have ev : findV none = -1 := rfl
    rw [ev] at HI
    clear hf hv hs hl hT FE ev
    go_enter Tryd.func25, Tryd.ntmps25
    go_wp2_with fail
    generalize w.alloc (.cells #[.string n.name, .string n.text, .slice p n.attrs.length c, .int .i64 n.parent, vk] 25) = w0 at *
    obtain ⟨nb, hnb⟩ : ∃ nb, Hid (w.heap.size = nb) := ⟨_, show _ = _ from rfl⟩
    refine HI.out.mono ?_
    rintro e w1 ⟨rfl, b1⟩
    go_wp2_with fail
    go_ret
    exact ⟨ret_int E.out.symm, chain B0.out b1⟩
  | some i =>
    obtain ⟨hi, _, _⟩ := List.findIdx?_eq_some_iff_getElem.1 (show n.attrs.findIdx? (isN tyS) = some i from hf)
    obtain ⟨t, ht⟩ : ∃ t, Hid (n.attrs[i].2 = t) := ⟨_, show _ = _ from rfl⟩
    have E : Hid (byT (tyOf n.attrs) f l z = kInt (seekR (lowS t) f l 30 0) z) := by
      show _ = _
      unfold tyOf
      rw [hf, ← ht.out]
      show kInt (seekR (lowS (n.attrs.getD i at0).2) f l 30 0) z = _
      rw [show n.attrs.getD i at0 = n.attrs[i] by simp [List.getD, hi]]
    rw [hf] at HI
    have ev : findV (some i) = (i : Int) := rfl
    rw [ev] at HI
    have i0 : (0 : Int) ≤ (i : Int) := by omega
    have i1 : (i : Int) < (n.attrs.length : Int) := by omega
    have i2 : ¬ (i : Int) < 0 := by omega
    have ts := hs _ (List.getElem_mem hi)
    rw [ht.out] at ts
    have HL := hide (fun W => lower_any t W (by unfold maxLen; omega))
    obtain ⟨b, o, rfl, hv2⟩ : ∃ b o, p = some ⟨b, o, none⟩ ∧ ∀ i (h : i < n.attrs.length), w.cell? ⟨b, o + i * 2, none⟩ = some (.string n.attrs[i].1) ∧ w.cell? ⟨b, o + i * 2 + 1, none⟩ = some (.string n.attrs[i].2) := by
      rcases hv with t | t
      · rw [t] at hi; simp at hi
      · exact t
    have c1 := cell_below (hv2 i hi).2 B0.out
    rw [ht.out] at c1
    obtain ⟨A, hA⟩ : ∃ A, Hid (seekR (lowS t) f l 30 0 = A) := ⟨_, show _ = _ from rfl⟩
    rw [hA.out] at E
    clear hf hv hv2 hs hT FE ev
    go_enter Tryd.func25, Tryd.ntmps25
    go_wp2_with fail
    generalize w.alloc (.cells #[.string n.name, .string n.text, .slice (some ⟨b, o, none⟩) n.attrs.length c, .int .i64 n.parent, vk] 25) = w0 at *
    obtain ⟨nb, hnb⟩ : ∃ nb, Hid (w.heap.size = nb) := ⟨_, show _ = _ from rfl⟩
    refine HI.out.mono ?_
    rintro e w1 ⟨rfl, b1⟩
    have B1 := hide (chain B0.out b1)
    have m2 := cell_below k2 b1
    have c1' := cell_below c1 b1
    clear b1 k0 k1 k2 k3 k4 c1
    go_wp2_with fail
    refine (HL.out _).mono ?_
    rintro e w2 ⟨rfl, b2⟩
    have B2 := hide (chain B1.out b2)
    have T2 := HTW.out.below B2.out
    obtain ⟨CS, hld, hin, hix⟩ := load_types w2 T2
    have HIX := hide hix
    have HLD := hide hld
    have HIN := hide hin
    clear hix hld hin
    clear T2 m2 c1' b2
    generalize lowS t = s at *
    go_upto_region 5 with fail
    refine wp_region_lit ?_
    refine wpList_load_mid rfl 41 _ rfl 1 0 rfl CS _ HLD.out Tryd.underlying41 rfl HIN.out ?_
    generalize CS.toArray = CA at *
    go_wp2_with fail
    go_loop [27] (fun iv => ∃ k : Nat, k ≤ 30 ∧ iv = .int .i64 k ∧ Hid (seekR s f l (30 - k) k = A)) (fun iv => 30 - (intOf iv).toNat)
    case atStart => exact ⟨0, Nat.zero_le _, rfl, hA⟩
    case round =>
      obtain ⟨k, hk, rfl, hn⟩ := hrel
      clear hA
      by_cases hlt : k < 30
      · have hix := HIX.out k hlt w2
        have HB := hide (between_any (k : Int) (f : Int) (l : Int))
        have HIT := hide (fun q1 q2 => seek_hit hlt hn.out q1 q2)
        have MISS := hide (fun q => seek_miss hlt hn.out q)
        have kk : (k : Int) < 30 := by omega
        have TB := hide (txt_beq (typeN k) s)
        cases hb : btwB (k : Int) (f : Int) (l : Int) with
        | false =>
          rw [hb] at HB
          have N := hide (MISS.out (.inl hb))
          clear hb HIT MISS hn
          generalize typeN k = x at *
          go_wp2_with fail
          refine (HB.out _).mono ?_
          rintro e u ⟨rfl, hu⟩
          obtain rfl : w2 = u := hu.symm
          go_wp2_with fail
          go_round
          case rel => exact ⟨k + 1, by omega, by go_num, N⟩
          case measure => simp [intOf]; omega
        | true =>
          rw [hb] at HB
          by_cases he : typeN k = s
          · have q : ((typeN k).toList == s.toList) = true := by rw [TB.out]; exact decide_eq_true he
            have N := hide (HIT.out hb he)
            clear hb HIT MISS hn he
            generalize typeN k = x at *
            go_wp2_with fail
            refine (HB.out _).mono ?_
            rintro e u ⟨rfl, hu⟩
            obtain rfl : w2 = u := hu.symm
            go_wp2_with fail
            go_ret
            exact ⟨by rw [E.out, N.out]; rfl, B2.out⟩
          · have q : ((typeN k).toList == s.toList) = false := by rw [TB.out]; exact decide_eq_false he
            have N := hide (MISS.out (.inr he))
            clear hb HIT MISS hn he
            generalize typeN k = x at *
            go_wp2_with fail
            refine (HB.out _).mono ?_
            rintro e u ⟨rfl, hu⟩
            obtain rfl : w2 = u := hu.symm
            go_wp2_with fail
            go_round
            case rel => exact ⟨k + 1, by omega, by go_num, N⟩
            case measure => simp [intOf]; omega
      · obtain rfl : k = 30 := by omega
        have N : Hid (A = none) := hn.out.symm
        clear hn hlt
        go_wp2_with fail
        go_ret
        exact ⟨by rw [E.out, N.out]; rfl, B2.out⟩

end Go.Proofs.YtnnnmfiniminfaaDoor
