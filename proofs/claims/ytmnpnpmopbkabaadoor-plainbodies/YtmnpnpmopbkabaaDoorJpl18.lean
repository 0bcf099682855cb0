/- Stage 21's wakes and its laws PlainEncodes, PlainBodies, walked. -/
import Derived.Test.YtmnpnpmopbkabaaDoorJpl16

namespace Go.Proofs.YtmnpnpmopbkabaaDoor
open Go.RowKit
set_option maxRecDepth 100000
def plWl : List En := [⟨⟨#[97]⟩, ⟨#[49]⟩, false, ⟨#[]⟩, ⟨#[]⟩⟩]
theorem pl_enc : txt (encN plWl) = ⟨#[97, 61, 49, 13, 10]⟩ := by kernel_rfl
theorem pl_ok : EnsOK 10 plWl := ⟨by decide, fun e q => by
  simp only [plWl, List.mem_cons, List.not_mem_nil, or_false] at q
  subst q
  decide⟩
theorem beq_txtN (s : ByteArray) : (s.toList == s.toList) = true := by simp
theorem bodE_rng (k : Int) (l : List En) (b : ByteArray) : 0 ≤ bodE k l b ∧ bodE k l b ≤ 10 := by
  unfold bodE encE20
  split
  · omega
  · split
    · split <;> omega
    · split <;> omega
set_option maxHeartbeats 8000000 in
theorem plWakes_any (w : World) (hT : PlTabs w) :
    Calls Tryd.prog 4 #[] w fun e w' => e = .returned (.bool true) ∧ Below w.heap.size w w' := by
  have AL : Hid (Below w.heap.size w (w.alloc (.cells #[.string ⟨#[97]⟩, .string ⟨#[49]⟩, .bool false, .string ⟨#[]⟩, .string ⟨#[]⟩] 34))) := (Below.refl _ w).alloc (Nat.le_refl _) _
  have FV : Hid (FilesV (w.alloc (.cells #[.string ⟨#[97]⟩, .string ⟨#[49]⟩, .bool false, .string ⟨#[]⟩, .string ⟨#[]⟩] 34)) (.slice (some ⟨w.heap.size, 0, none⟩) 1 1) plWl) := files_one w ⟨⟨#[97]⟩, ⟨#[49]⟩, false, ⟨#[]⟩, ⟨#[]⟩⟩
  have HE := hide (plEncode_any 10 _ plWl _ FV.out (by omega) pl_ok (hT.below AL.out))
  rw [pl_enc] at HE
  clear FV hT
  go_enter Tryd.func4, Tryd.ntmps4
  go_wp2_with fail
  refine HE.out.mono ?_
  rintro e w1 ⟨rfl, b1⟩
  go_wp2_with fail
  go_ret
  exact ⟨rfl, chain AL.out b1⟩
set_option maxHeartbeats 8000000 in
theorem plainBodies_walk (kind : Int) (v : Value) (l : List En) (b : ByteArray) (w : World) (hv : FilesV w v l) (hf : l.length ≤ 4398046511104) (hz : b.size ≤ maxLen) (hT : PlTabs w) :
    Calls Tryd.prog 3 #[.int .i64 kind, v, .string b] w fun e w' => e = .returned (.bool true) ∧ Below w.heap.size w w' := by
  have FV := hide hv
  have HW := hide (plWakes_any w hT)
  have HLg := hide (fun W (hb : Below w.heap.size w W) => refLong_any v l W (FV.out.below hb) hf)
  have hz' : b.size ≤ 9223372036854775807 := hz
  clear hz
  cases lg : longU l with
  | true =>
    rw [lg] at HLg
    obtain ⟨p, c, rfl⟩ := files_formP hv
    clear hv hf hT lg FV
    go_enter Tryd.func3, Tryd.ntmps3
    go_wp2_with fail
    refine HW.out.mono ?_
    rintro e w1 ⟨rfl, b1⟩
    go_wp2_with fail
    refine (HLg.out _ b1).mono ?_
    rintro e w2 ⟨rfl, hu⟩
    obtain rfl : w1 = w2 := hu.symm
    go_wp2_with fail
    go_ret
    exact ⟨rfl, b1⟩
  | false =>
    obtain ⟨l60, hok⟩ := long_ok lg
    rw [lg] at HLg
    by_cases hb : 1000 < b.size
    · have d : decide (1000 < (b.size : Int)) = true := decide_eq_true (by omega)
      obtain ⟨p, c, rfl⟩ := files_formP hv
      clear hv hf hT lg FV hok hb
      go_enter Tryd.func3, Tryd.ntmps3
      go_wp2_with fail
      refine HW.out.mono ?_
      rintro e w1 ⟨rfl, b1⟩
      go_wp2_with fail
      refine (HLg.out _ b1).mono ?_
      rintro e w2 ⟨rfl, hu⟩
      obtain rfl : w1 = w2 := hu.symm
      go_wp2_with fail
      go_ret
      exact ⟨rfl, b1⟩
    · have d : decide (1000 < (b.size : Int)) = false := decide_eq_false (by omega)
      have hb : b.size ≤ 1000 := by omega
      have HEn := hide (fun u W (hb' : Below w.heap.size w W) (hu : FilesV W u l) => plBody_any 2000 kind u l b W hu (by omega) hok hb (hT.below hb'))
      have HRe := hide (fun W (hb' : Below w.heap.size w W) => refOf21_any 2000 kind v l b W (FV.out.below hb') (by omega) hok hb)
      have BQ := hide (beq_txtN (bodT kind l b))
      have BY := hide (beq_txtN (bodY kind l b))
      obtain ⟨r0, r1⟩ := bodE_rng kind l b
      have EQ : Hid ((bodE kind l b == bodE kind l b) = true) := by show _ = _; simp
      obtain ⟨p, c, rfl⟩ := files_formP hv
      clear hv hf hT lg hok
      generalize bodT kind l b = et at *
      generalize bodY kind l b = ey at *
      generalize bodE kind l b = ee at *
      go_enter Tryd.func3, Tryd.ntmps3
      go_wp2_with fail
      refine HW.out.mono ?_
      rintro e w1 ⟨rfl, b1⟩
      go_wp2_with fail
      refine (HLg.out _ b1).mono ?_
      rintro e w2 ⟨rfl, hu⟩
      obtain rfl : w1 = w2 := hu.symm
      have OE := hide (OwnR.empty w1.heap.size w1 (Nat.le_refl _))
      have A1 : Hid (Below w1.heap.size w1 (w1.alloc (.cells #[] 34))) := (Below.refl _ w1).alloc (Nat.le_refl _) _
      have FA := hide ((FV.out.below b1).below A1.out)
      have SA := hide A1.out.size
      go_wp2_with (at_builtin; refine wpList_append_en0 rfl _ _ rfl w1.heap.size _ rfl OE.out _ l rfl FA.out (by omega) SA.out ?_; intro q2 c2 w2 o2 b2)
      have B2 : Hid (Below w.heap.size w w2) := b1.trans ((A1.out.trans b2).mono b1.size)
      have F2 := hide o2.files
      clear OE A1 FA SA o2 b2 b1
      refine (HEn.out _ _ B2.out F2.out).mono ?_
      rintro e w3 ⟨rfl, b3⟩
      have B3 := hide (chain B2.out b3)
      clear b3 B2 F2
      go_wp2_with fail
      refine (HRe.out _ B3.out).mono ?_
      rintro e w4 ⟨rfl, b4⟩
      have B4 := hide (chain B3.out b4)
      clear b4 B3
      have KR := hide (Bk.new w4 [.string et, .string ey, .int .i64 ee] 29)
      have q1 := BQ.out
      have q2 := EQ.out
      have q3 := BY.out
      go_wp2_with fail
      go_ret
      exact ⟨rfl, B4.out.alloc B4.out.size _⟩

end Go.Proofs.YtmnpnpmopbkabaaDoor
