/- The document's Clock (a time's text) answers by clockL; blocks are laid behind, and no more. Condition: a time of one day. -/
import Derived.Test.YtekcbkicfoaheaaGreatDoorMomDay
namespace Go.Proofs.YtekcbkicfoaheaaGreatDoor
open Go.RowKit Go.Sort

/-- Without the noughts at its end. -/
def tz (l : List UInt8) : List UInt8 := (l.reverse.dropWhile (· == 48)).reverse
theorem tz_snoc (p : List UInt8) (c : UInt8) : tz (p ++ [c]) = if c = 48 then tz p else p ++ [c] := by
  unfold tz
  rw [List.reverse_append]
  show (List.dropWhile _ (c :: p.reverse)).reverse = _
  rw [List.dropWhile_cons]
  by_cases h : c = 48
  · subst h; simp
  · simp [h]
theorem tz_nil : tz [] = [] := rfl
theorem dgB_0 {n : Nat} (h : n < 10) : dgB n = 48 ↔ n = 0 := by
  constructor
  · intro e
    have := congrArg UInt8.toNat e
    rw [dgB_toNat h] at this
    have t : (48 : UInt8).toNat = 48 := rfl
    omega
  · intro e; subst e; rfl
theorem pad_3 {n : Nat} (h : n < 1000) : padL n 3 = [dgB (n / 100), dgB (n / 10 % 10), dgB (n % 10)] := by
  unfold padL
  by_cases h1 : n < 10
  · rw [decD_small h1, show n / 100 = 0 by omega, show n / 10 % 10 = 0 by omega, show n % 10 = n by omega]; rfl
  · by_cases h2 : n < 100
    · rw [decD_great h1, decD_small (show n / 10 < 10 by omega), show n / 100 = 0 by omega, show n / 10 % 10 = n / 10 by omega]; rfl
    · rw [decD_great h1, decD_great (show ¬ n / 10 < 10 by omega), decD_small (show n / 10 / 10 < 10 by omega), show n / 10 / 10 = n / 100 by omega]; rfl
theorem tz_pad {n : Nat} (h : n < 1000) (h0 : n ≠ 0) : tz (padL n 3) = fracD 3 n := by
  rw [pad_3 h]
  have e : [dgB (n / 100), dgB (n / 10 % 10), dgB (n % 10)] = ([dgB (n / 100)] ++ [dgB (n / 10 % 10)]) ++ [dgB (n % 10)] := rfl
  have e1 : [dgB (n / 100)] = [] ++ [dgB (n / 100)] := rfl
  rw [e, tz_snoc]
  unfold fracD fracD fracD fracD
  rw [if_neg h0]
  by_cases c : n % 10 = 0
  · rw [if_pos ((dgB_0 (by omega)).2 c), tz_snoc]
    by_cases b : n / 10 % 10 = 0
    · rw [if_pos ((dgB_0 (by omega)).2 b), e1, tz_snoc, if_neg (fun x => by have := (dgB_0 (by omega)).1 x; omega), if_pos (by omega)]; rfl
    · rw [if_neg (fun x => b ((dgB_0 (by omega)).1 x)), if_neg (by omega), if_pos (by omega), show n % 10 ^ 2 / 10 ^ 1 = n / 10 % 10 by omega]; rfl
  · rw [if_neg (fun x => c ((dgB_0 (by omega)).1 x)), if_neg (by omega), if_neg (by omega), show n % 10 ^ 2 / 10 ^ 1 = n / 10 % 10 by omega, show n % 10 ^ 2 % 10 ^ 1 / 10 ^ 0 = n % 10 by omega]; rfl
theorem last_at (p : List UInt8) (c : UInt8) (w : World) : (Instr.index 9 (.string (txt (p ++ [c]))) (.int .i64 (((txt (p ++ [c])).size : Int) - 1))).run Tryz.prog w = .ok (.int .u8 (c.toNat : Int)) w := by
  have hz : (txt (p ++ [c])).size = p.length + 1 := by rw [txt_size]; simp
  rw [run_index_string _ _ _ _ _ Tryz.underlying9, dif_pos ⟨by omega, by omega⟩]
  have e : ((((txt (p ++ [c])).size : Int) - 1)).toNat = p.length := by omega
  have : ∀ (k : Nat) (hk : k < (txt (p ++ [c])).size), k = p.length → ((txt (p ++ [c]))[k]'hk) = c := by
    intro k hk e
    subst e
    have hk2 : p.length < (p ++ [c]).toArray.size := by simp
    have e3 : (p ++ [c]).toArray[p.length]'hk2 = c := by simp
    exact e3
  rw [this _ _ e]
theorem last_cut (p : List UInt8) (c : UInt8) (k : Nat) (h : k = p.length) : (txt (p ++ [c])).extract 0 k = txt p := by
  subst h
  apply ByteArray.ext
  apply Array.ext'
  simp [txt]

set_option maxHeartbeats 2000000 in
theorem clockTxt_any (n : Nat) (w : World) (hn : n < 86400000) :
    Calls Tryz.prog 31 #[.int .i64 n] w fun e w' => e = .returned (.string (txt (clockL n))) ∧ Grew w w' := by
  have hA : ∀ w, Calls Tryz.prog 28 #[.int .i64 ((n : Int) / 3600000), .int .i64 2] w fun e w' => e = .returned (.string (txt (padL (n / 3600000) 2))) ∧ Grew w w' := fun w => by
    have := pad_any (n / 3600000) 2 w (by omega) (by decide)
    rw [show ((n / 3600000 : Nat) : Int) = (n : Int) / 3600000 by omega] at this; exact this
  have hB : ∀ w, Calls Tryz.prog 28 #[.int .i64 ((n : Int) / 60000 % 60), .int .i64 2] w fun e w' => e = .returned (.string (txt (padL (n / 60000 % 60) 2))) ∧ Grew w w' := fun w => by
    have := pad_any (n / 60000 % 60) 2 w (by omega) (by decide)
    rw [show ((n / 60000 % 60 : Nat) : Int) = (n : Int) / 60000 % 60 by omega] at this; exact this
  have hC : ∀ w, Calls Tryz.prog 28 #[.int .i64 ((n : Int) / 1000 % 60), .int .i64 2] w fun e w' => e = .returned (.string (txt (padL (n / 1000 % 60) 2))) ∧ Grew w w' := fun w => by
    have := pad_any (n / 1000 % 60) 2 w (by omega) (by decide)
    rw [show ((n / 1000 % 60 : Nat) : Int) = (n : Int) / 1000 % 60 by omega] at this; exact this
  have hD : ∀ w, Calls Tryz.prog 28 #[.int .i64 ((n : Int) % 1000), .int .i64 3] w fun e w' => e = .returned (.string (txt (padL (n % 1000) 3))) ∧ Grew w w' := fun w => by
    have := pad_any (n % 1000) 3 w (by omega) (by decide)
    rw [show ((n % 1000 : Nat) : Int) = (n : Int) % 1000 by omega] at this; exact this
  have z1 : (txt (padL (n / 3600000) 2)).size ≤ 2 := by rw [txt_size]; exact pad_most (k := 2) (by omega) (by decide) (by decide)
  have z2 : (txt (padL (n / 60000 % 60) 2)).size ≤ 2 := by rw [txt_size]; exact pad_most (k := 2) (by omega) (by decide) (by decide)
  have z3 : (txt (padL (n / 1000 % 60) 2)).size ≤ 2 := by rw [txt_size]; exact pad_most (k := 2) (by omega) (by decide) (by decide)
  have zc : (⟨#[58]⟩ : ByteArray).size = 1 := rfl
  have zp : (⟨#[46]⟩ : ByteArray).size = 1 := rfl
  have ec : (⟨#[58]⟩ : ByteArray) = txt [58] := rfl
  have ep : (⟨#[46]⟩ : ByteArray) = txt [46] := rfl
  have hr : n % 1000 ≠ 0 → tz (padL (n % 1000) 3) = fracD 3 (n % 1000) := tz_pad (by omega)
  have hf := pad_3 (show n % 1000 < 1000 by omega)
  have E1 : Hid (n % 60000 = 0 → txt (clockL n) = txt (padL (n / 3600000) 2) ++ ⟨#[58]⟩ ++ txt (padL (n / 60000 % 60) 2)) := fun h => by
    unfold clockL; rw [if_pos h, ec, txt_app, txt_app]; simp
  have E2 : Hid (n % 60000 ≠ 0 → n % 1000 = 0 → txt (clockL n) = txt (padL (n / 3600000) 2) ++ ⟨#[58]⟩ ++ txt (padL (n / 60000 % 60) 2) ++ (⟨#[58]⟩ ++ txt (padL (n / 1000 % 60) 2))) := fun h h' => by
    unfold clockL; rw [if_neg h, if_pos h', ec, txt_app, txt_app, txt_app, txt_app]; simp
  have E3 : Hid (n % 60000 ≠ 0 → n % 1000 ≠ 0 → txt (clockL n) = txt (padL (n / 3600000) 2) ++ ⟨#[58]⟩ ++ txt (padL (n / 60000 % 60) 2) ++ (⟨#[58]⟩ ++ txt (padL (n / 1000 % 60) 2)) ++ ⟨#[46]⟩ ++ txt (fracD 3 (n % 1000))) := fun h h' => by
    unfold clockL; rw [if_neg h, if_neg h', ec, ep, txt_app, txt_app, txt_app, txt_app, txt_app, txt_app]; simp
  clear ec ep
  generalize txt (padL (n / 3600000) 2) = a at *
  generalize txt (padL (n / 60000 % 60) 2) = b at *
  generalize txt (padL (n / 1000 % 60) 2) = c at *
  have x1 : 0 ≤ (n : Int) := by omega
  have x2 : (n : Int) < 86400000 := by omega
  have HA := hide hA
  have HB := hide hB
  have HC := hide hC
  have HD := hide hD
  clear hA hB hC hD
  by_cases h1 : n % 60000 = 0
  · have E := hide (E1.out h1)
    have t1 : ((n : Int) % 60000 == 0) = true := beq_yes (by omega)
    clear E1 E2 E3 h1 hr hf hn
    generalize (n : Int) = x at *
    go_enter Tryz.func31, Tryz.ntmps31
    go_wp2_with fail
    refine (HA.out _).mono ?_
    rintro e v1 ⟨rfl, g1⟩
    go_wp2_with fail
    refine (HB.out _).mono ?_
    rintro e v2 ⟨rfl, g2⟩
    go_wp2_with fail
    go_ret
    exact ⟨ret_str E.out.symm, g1.trans g2⟩
  · have t1 : ((n : Int) % 60000 == 0) = false := beq_no (by omega)
    by_cases h2 : n % 1000 = 0
    · have E := hide (E2.out h1 h2)
      have t2 : ((n : Int) % 1000 == 0) = true := beq_yes (by omega)
      clear E1 E2 E3 h1 h2 hr hf hn
      generalize (n : Int) = x at *
      go_enter Tryz.func31, Tryz.ntmps31
      go_wp2_with fail
      refine (HA.out _).mono ?_
      rintro e v1 ⟨rfl, g1⟩
      go_wp2_with fail
      refine (HB.out _).mono ?_
      rintro e v2 ⟨rfl, g2⟩
      go_wp2_with fail
      refine (HC.out _).mono ?_
      rintro e v3 ⟨rfl, g3⟩
      go_wp2_with fail
      go_ret
      exact ⟨ret_str E.out.symm, (g1.trans g2).trans g3⟩
    · have E := hide (E3.out h1 h2)
      have t2 : ((n : Int) % 1000 == 0) = false := beq_no (by omega)
      have HR := hide (hr h2)
      have HF := hide hf
      have HE := hide (fun e => h2 ((fracD_nil (p := 3) (m := n % 1000) (by omega)).1 e))
      clear E1 E2 E3 h1 h2 hr hf hn
      generalize n % 1000 = r at *
      generalize (n : Int) = x at *
      go_enter Tryz.func31, Tryz.ntmps31
      go_wp2_with fail
      refine (HA.out _).mono ?_
      rintro e v1 ⟨rfl, g1⟩
      go_wp2_with fail
      refine (HB.out _).mono ?_
      rintro e v2 ⟨rfl, g2⟩
      go_wp2_with fail
      refine (HC.out _).mono ?_
      rintro e v3 ⟨rfl, g3⟩
      go_wp2_with fail
      refine (HD.out _).mono ?_
      rintro e v4 ⟨rfl, g4⟩
      go_wp2_with fail
      go_loop [4] (fun v => ∃ (p : List UInt8) (d : UInt8), v = .string (txt (p ++ [d])) ∧ p.length ≤ 2 ∧ Hid (tz (p ++ [d]) = fracD 3 r)) (fun v => match v with | .string t => t.size | _ => 0)
      case atStart => exact ⟨[dgB (r / 100), dgB (r / 10 % 10)], dgB (r % 10), by rw [HF.out]; rfl, by simp, hide (by rw [← HR.out, HF.out]; rfl)⟩
      case round =>
        obtain ⟨p, d, rfl, hp, hT⟩ := hrel
        have hix := last_at p d
        have hz : (txt (p ++ [d])).size = p.length + 1 := by rw [txt_size]; simp
        have hts := tz_snoc p d
        by_cases hd : d = 48
        · rw [if_pos hd] at hts
          have hpn : p ≠ [] := fun e => by
            have := hT.out
            rw [hts, e, tz_nil] at this
            exact HE.out this.symm
          obtain ⟨p', d', rfl⟩ : ∃ p' d', p = p' ++ [d'] := ⟨p.dropLast, p.getLast hpn, (List.dropLast_concat_getLast hpn).symm⟩
          have hN : Hid (tz (p' ++ [d']) = fracD 3 r) := by show _ = _; rw [← hts]; exact hT.out
          have hd2 : ((d.toNat : Int) == 48) = true := by subst hd; rfl
          have hcut := last_cut (p' ++ [d']) d
          have hpl : p'.length ≤ 1 := by simp at hp; omega
          have hz2 : (txt (p' ++ [d'])).size = p'.length + 1 := by rw [txt_size]; simp
          have hz3 : (txt (p' ++ [d'] ++ [d])).size = p'.length + 2 := by rw [hz]; simp
          have hl2 : (p' ++ [d']).length = p'.length + 1 := by simp
          have HCU := hide hcut
          have HL := hide hl2
          clear hts hpn hT hd hp hcut hz hl2
          generalize txt (p' ++ [d'] ++ [d]) = t at *
          have t3 : 2 ≤ t.size := by omega
          have t4 : t.size ≤ 3 := by omega
          have HZ := hide (show t.size = p'.length + 2 ∧ (txt (p' ++ [d'])).size = p'.length + 1 from ⟨hz3, hz2⟩)
          clear hz3 hz2
          go_wp2_with fail
          go_round
          case rel => exact ⟨p', d', by rw [HCU.out _ (by rw [HL.out]; have := HZ.out.1; omega)], by omega, hN⟩
          case measure => rw [HCU.out _ (by rw [HL.out]; have := HZ.out.1; omega)]; simp only [HZ.out.1, HZ.out.2]; omega
        · rw [if_neg hd] at hts
          have hE : Hid (txt (p ++ [d]) = txt (fracD 3 r)) := by show _ = _; rw [← hts, hT.out]
          have hd2 : ((d.toNat : Int) == 48) = false := beq_no (fun e => hd (UInt8.toNat_inj.1 (show d.toNat = 48 by omega)))
          clear hts hT hd
          have E' : Hid (txt (clockL n) = a ++ ⟨#[58]⟩ ++ b ++ (⟨#[58]⟩ ++ c) ++ ⟨#[46]⟩ ++ txt (p ++ [d])) := by show _ = _; rw [E.out, hE.out]
          generalize txt (p ++ [d]) = t at *
          have t3 : 1 ≤ t.size := by omega
          have t4 : t.size ≤ 3 := by omega
          clear hz
          go_wp2_with fail
          go_ret
          exact ⟨ret_str E'.out.symm, ((g1.trans g2).trans g3).trans g4⟩

end Go.Proofs.YtekcbkicfoaheaaGreatDoor
