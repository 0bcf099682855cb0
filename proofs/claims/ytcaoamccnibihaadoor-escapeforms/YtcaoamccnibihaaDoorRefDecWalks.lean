/- The document's Decode answers by decL; it changes nothing that was there. Condition: texts of at most 2^40 bytes. -/
import Derived.Test.YtcaoamccnibihaaDoorRefEncWalks
import Derived.Test.YtcaoamccnibihaaDoorDecAt
import Derived.Deep.RegionLaw
import Derived.Deep.AppendLies
namespace Go.Proofs.YtcaoamccnibihaaDoor
open Go.RowKit

def num22 (k : Nat) : Int := if k < 10 then (48 : Int) + k else if k < 16 then (55 : Int) + k else (81 : Int) + k
theorem at22 (k : Nat) (hk : k < (⟨#[48, 49, 50, 51, 52, 53, 54, 55, 56, 57, 65, 66, 67, 68, 69, 70, 97, 98, 99, 100, 101, 102]⟩ : ByteArray).size) : (((⟨#[48, 49, 50, 51, 52, 53, 54, 55, 56, 57, 65, 66, 67, 68, 69, 70, 97, 98, 99, 100, 101, 102]⟩ : ByteArray)[k].toNat : Nat) : Int) = num22 k := by
  have : ∀ n : Fin 22, (((⟨#[48, 49, 50, 51, 52, 53, 54, 55, 56, 57, 65, 66, 67, 68, 69, 70, 97, 98, 99, 100, 101, 102]⟩ : ByteArray)[n.val]'(by have := n.isLt; exact this)).toNat : Int) = num22 n.val := by decide
  exact this ⟨k, hk⟩
def NotTo22 (x : Int) (k : Nat) : Prop := ∀ j, j < k → num22 j ≠ x
theorem notTo22_succ {x : Int} {k : Nat} (h : NotTo22 x k) (he : num22 k ≠ x) : NotTo22 x (k + 1) := by
  intro j hj
  rcases Nat.lt_or_ge j k with h' | h'
  · exact h j h'
  · obtain rfl : j = k := by omega
    exact he
theorem hexV_small {c : UInt8} {k : Nat} (hk : k ≤ 15) (he : num22 k = (c.toNat : Int)) : (k : Int) = hexV c := by
  unfold num22 at he
  unfold hexV
  by_cases h : k < 10
  · rw [if_pos h] at he; rw [if_pos (by omega)]; omega
  · rw [if_neg h, if_pos (by omega)] at he; rw [if_neg (by omega), if_pos (by omega)]; omega
theorem hexV_great {c : UInt8} {k : Nat} (hk : 15 < k) (h22 : k < 22) (he : num22 k = (c.toNat : Int)) : (k : Int) - 6 = hexV c := by
  unfold num22 at he
  rw [if_neg (by omega), if_neg (by omega)] at he
  unfold hexV
  rw [if_neg (by omega), if_neg (by omega), if_pos (by omega)]; omega
theorem hexV_not {c : UInt8} (h : NotTo22 (c.toNat : Int) 22) : -1 = hexV c := by
  unfold hexV
  by_cases h1 : 48 ≤ c.toNat ∧ c.toNat ≤ 57
  · exfalso
    refine h (c.toNat - 48) (by omega) ?_
    unfold num22; rw [if_pos (by omega)]; omega
  · by_cases h2 : 65 ≤ c.toNat ∧ c.toNat ≤ 70
    · exfalso
      refine h (c.toNat - 55) (by omega) ?_
      unfold num22; rw [if_neg (by omega), if_pos (by omega)]; omega
    · by_cases h3 : 97 ≤ c.toNat ∧ c.toNat ≤ 102
      · exfalso
        refine h (c.toNat - 81) (by omega) ?_
        unfold num22; rw [if_neg (by omega), if_neg (by omega)]; omega
      · rw [if_neg h1, if_neg h2, if_neg h3]

set_option maxHeartbeats 1000000 in
theorem refDigit_any (c : UInt8) (w : World) :
    Calls Tryd.prog 31 #[.int .u8 (c.toNat : Int)] w fun e w' => e = .returned (.int .i64 (hexV c)) ∧ w' = w := by
  go_enter Tryd.func31, Tryd.ntmps31
  go_wp2_with fail
  go_loop [4] (fun i => ∃ k : Nat, k ≤ 22 ∧ i = .int .i64 k ∧ NotTo22 (c.toNat : Int) k) (fun i => 22 - (intOf i).toNat)
  case atStart => exact ⟨0, Nat.zero_le _, rfl, fun j hj => absurd hj (Nat.not_lt_zero _)⟩
  case round =>
    obtain ⟨k, hk, rfl, hn⟩ := hrel
    have HN := hide hn
    clear hn
    by_cases hlt : k < 22
    · by_cases he : num22 k = (c.toNat : Int)
      · have q : ((((⟨#[48, 49, 50, 51, 52, 53, 54, 55, 56, 57, 65, 66, 67, 68, 69, 70, 97, 98, 99, 100, 101, 102]⟩ : ByteArray)[k]'hlt).toNat : Int) == (c.toNat : Int)) = true := by rw [at22 k hlt]; simpa using he
        by_cases h15 : k ≤ 15
        · have HV := hide (hexV_small h15 he)
          clear he
          go_wp2
          go_ret
          exact ⟨ret_int HV.out, rfl⟩
        · have HV := hide (hexV_great (by omega) hlt he)
          have h16 : (15 : Int) < (k : Int) := by omega
          clear he
          go_wp2
          go_ret
          exact ⟨ret_int HV.out, rfl⟩
      · have q : ((((⟨#[48, 49, 50, 51, 52, 53, 54, 55, 56, 57, 65, 66, 67, 68, 69, 70, 97, 98, 99, 100, 101, 102]⟩ : ByteArray)[k]'hlt).toNat : Int) == (c.toNat : Int)) = false := by rw [at22 k hlt]; simpa using he
        have HV := hide (notTo22_succ HN.out he)
        clear he
        go_wp2
        go_round
        case rel => exact ⟨k + 1, by omega, by go_num, HV.out⟩
        case measure => simp [intOf]; omega
    · have e : k = 22 := by omega
      subst e
      have HV := hide (hexV_not HN.out)
      go_wp2
      go_ret
      exact ⟨ret_int HV.out, rfl⟩

/-- 'out = append(out, c)' as one step of a statement that draws its order. -/
theorem step_append_byte {P : Program} {t e st : TypeId} (bt : ByteTypes P t e st) {ops : Array Oper} {o : Oper} {a : Act} {K : Act → World → Prop} {Q : Exit → Act → World → Prop} {E : Prop} (w : World) (y : Int)
    (hgd : o.guard = none) (s x : Operand) (ho : o.op = .call { callee := .builtin .append, args := #[s, x], argTypes := #[t, t] })
    (base : Nat) (v : Value) (l : List UInt8) (c : UInt8) (hy : y = (c.toNat : Int)) (hs : a.eval s = v) (hown : OwnsB e base w v l)
    (hx : a.eval x = .slice (some ⟨w.heap.size, 0, none⟩) 1 1) (hlen : l.length ≤ 70368744177664) (hbase : base ≤ w.heap.size)
    (h : ∀ v' w', OwnsB e base w' v' (l ++ [c]) → Below base w w' → K (a.put o.dst v') w') : if Region.wanted o (yielded ops a.tmps) = true then Oper.wp P o a (w.alloc (.cells #[.int .u8 y] e)).drew K Q else E := by
  subst hy
  obtain ⟨i, hi, hz0, hz1, hz2⟩ := info_parts bt.info
  have hown0 : (w.alloc (.cells #[.int .u8 (c.toNat : Int)] e)).ownsRow base e 1 v l.length (l.map cellB) := World.ownsRow.alloc hown _
  have hown' : (w.alloc (.cells #[.int .u8 (c.toNat : Int)] e)).drew.ownsRow base e 1 v l.length (l.map cellB) := ownsRow_below hown0 (Below.drew (Below.refl _ _))
  refine step_append_lies _ hgd s x t ho base e i (.int .u8 0) 1 1 bt.sl hi hz0 hz1 hz2 rfl (by decide) v l.length (l.map cellB) hs hown' ⟨w.heap.size, 0, none⟩ 1 1 [cellB c] hx rfl (cell_one_new _ _ _) (fun u hu => by simp at hu; subst hu; rfl) (by decide) (by unfold maxLen; omega) (by omega) (by simp; omega) _ rfl ?_
  intro g cap w' h1 h2 _ _
  refine h _ w' ?_ (((Below.refl base w).alloc hbase _).drew.trans (grown_below hown' h2 (by simp; omega)))
  simpa [OwnsB] using h1

theorem wrap_i {x : Int} (h1 : -9223372036854775808 ≤ x) (h2 : x ≤ 9223372036854775807) : IntKind.i64.wrap x = x := by
  rw [IntKind.wrap_i64]; omega
theorem wrap_b {x : Int} (h1 : 0 ≤ x) (h2 : x ≤ 255) : IntKind.u8.wrap x = x := by
  simp [IntKind.wrap, IntKind.signed, IntKind.bits]; omega

set_option maxHeartbeats 2000000 in
theorem refDecode_any (s : ByteArray) (w : World) (hs : s.size ≤ 1099511627776) :
    Calls Tryd.prog 15 #[.string s] w fun r w' => r = .returned (.string (decS s)) ∧ Below w.heap.size w w' := by
  go_enter Tryd.func15, Tryd.ntmps15
  go_wp2_with fail
  go_loopw [3, 4] (fun v i wr => ∃ (k : Nat) (l : List UInt8), k ≤ s.size ∧ i = .int .i64 k ∧ DecAt s k 0 l ∧ OwnsB 5 w.heap.size wr v l ∧ Below w.heap.size w wr) (fun _ i _ => s.size - (intOf i).toNat)
  case atStart => exact ⟨0, [], Nat.zero_le _, rfl, decAt_start s, OwnsB.nil _ _ _, Below.refl _ _⟩
  case round =>
    obtain ⟨k, l, hk, rfl, hd, hown, hb⟩ := hrel
    have hle := decAt_len hd
    have HK := hide hd
    have hsz := hb.size
    clear hd
    by_cases hlt : k < s.size
    · by_cases h37 : (s[k].toNat : Int) = 37
      · by_cases h2 : k + 2 < s.size
        · have hD := drop3 s k h2
          have hx := fun w => refDigit_any (s[k + 1]'(by omega)) w
          have hy := fun w => refDigit_any (s[k + 2]'h2) w
          have gx := hexV_lt (s[k + 1]'(by omega))
          have gy := hexV_lt (s[k + 2]'h2)
          have hi2 : (2 : Int) < (s.size : Int) - (k : Int) := by omega
          have hi3 : (k : Int) + 1 < (s.size : Int) := by omega
          have hi4 : (k : Int) + 2 < (s.size : Int) := by omega
          have q : ((s[k].toNat : Int) == 37) = true := by simpa using h37
          have h0 : s[k] = 37 := UInt8.toNat_inj.1 (by show _ = 37; omega)
          by_cases ha : 0 ≤ hexV (s[k + 1]'(by omega))
          · obtain ⟨a, ea⟩ : ∃ a : Nat, hexV (s[k + 1]'(by omega)) = a := ⟨(hexV (s[k + 1]'(by omega))).toNat, by omega⟩
            have ha16 : a < 16 := by omega
            by_cases hb' : 0 ≤ hexV (s[k + 2]'h2)
            · obtain ⟨b, eb⟩ : ∃ b : Nat, hexV (s[k + 2]'h2) = b := ⟨(hexV (s[k + 2]'h2)).toNat, by omega⟩
              have hb16 : b < 16 := by omega
              have HE : Hid (headE (s.data.toList.drop k) = some (two (s[k + 1]'(by omega)) (s[k + 2]'h2))) := by
                rw [hD, h0]; exact headE_yes _ ha hb'
              have HN := hide (decAt_next (decAt_hit HK.out (Nat.zero_le _) HE.out))
              have HV := hide (two_num ea eb ha16 hb16).symm
              rw [ea] at hx
              rw [eb] at hy
              have HX := hide hx
              have HY := hide hy
              have EA := hide ea
              have EB := hide eb
              clear hx hy ea eb h37 h0 ha hb' hD gx gy
              go_wp2_with fail
              refine (HX.out _).mono ?_
              rintro e w0 ⟨rfl, hw⟩
              obtain rfl : wr = w0 := hw.symm
              clear hw
              go_wp2_with fail
              refine (HY.out _).mono ?_
              rintro e w0 ⟨rfl, hw⟩
              obtain rfl : wr = w0 := hw.symm
              clear hw
              go_wp2_with fail
              have t1 : ((k : Int) + 1).toNat = k + 1 := by omega
              have t2 : ((k : Int) + 2).toNat = k + 2 := by omega
              have ea := EA.out
              have eb := EB.out
              have e1 : IntKind.i64.wrap ((k : Int) + 1) = (k : Int) + 1 := wrap_i (by omega) (by omega)
              have e2 : IntKind.i64.wrap ((k : Int) + 2) = (k : Int) + 2 := wrap_i (by omega) (by omega)
              have e3 : IntKind.i64.wrap ((a : Int) * 16) = (a : Int) * 16 := wrap_i (by omega) (by omega)
              have e4 : IntKind.i64.wrap ((a : Int) * 16 + (b : Int)) = (a : Int) * 16 + (b : Int) := wrap_i (by omega) (by omega)
              have e5 : IntKind.u8.wrap ((a : Int) * 16 + (b : Int)) = (a : Int) * 16 + (b : Int) := wrap_b (by omega) (by omega)
              go_region_law (first
                | (go_simp; go_at_call 31; refine (refDigit_any _ _).mono ?_; rintro e w0 ⟨rfl, hw⟩; subst hw; go_wp2_with fail)
                | (refine step_append_byte byteTypes wr _ rfl _ _ rfl w.heap.size _ _ (two (s[k + 1]'(by omega)) (s[k + 2]'h2)) (by first | exact HV.out | (simp only [t1, t2, EA.out, EB.out, e3, e4, e5]; exact HV.out)) (by simp [Act.eval]) hown (by simp [Act.eval]) (by omega) (by omega) ?_; intro v1 w1 hown1 hb1))
              all_goals
                go_wp2_with fail
                go_roundw
                case rel => exact ⟨k + 3, _, by omega, by go_num, HN.out, hown1, hb.trans hb1⟩
                case measure => simp [intOf]; omega
            · have HE : Hid (headE (s.data.toList.drop k) = none) := by
                rw [hD]; exact headE_noB _ hb'
              have HN := hide (decAt_miss HK.out (Nat.zero_le _) hlt HE.out)
              have hbn : hexV (s[k + 2]'h2) < 0 := by omega
              rw [ea] at hx
              have HX := hide hx
              have HY := hide hy
              clear hx hy ea h37 h0 ha hb' hD gx gy
              go_wp2_with fail
              refine (HX.out _).mono ?_
              rintro e w0 ⟨rfl, hw⟩
              obtain rfl : wr = w0 := hw.symm
              clear hw
              go_wp2_with fail
              refine (HY.out _).mono ?_
              rintro e w0 ⟨rfl, hw⟩
              obtain rfl : wr = w0 := hw.symm
              clear hw
              go_wp2_with (at_builtin; refine wpList_append_byte byteTypes wr _ rfl _ _ rfl w.heap.size _ _ s[k] rfl rfl hown rfl (by omega) (by omega) ?_; intro v1 w1 hown1 hb1)
              go_roundw
              case rel => exact ⟨k + 1, _, by omega, by go_num, HN.out, hown1, hb.trans hb1⟩
              case measure => simp [intOf]; omega
          · have HE : Hid (headE (s.data.toList.drop k) = none) := by
              rw [hD]; exact headE_noA _ ha
            have HN := hide (decAt_miss HK.out (Nat.zero_le _) hlt HE.out)
            have han : hexV (s[k + 1]'(by omega)) < 0 := by omega
            have HX := hide hx
            clear hx hy h37 h0 ha hD gx gy
            go_wp2_with fail
            refine (HX.out _).mono ?_
            rintro e w0 ⟨rfl, hw⟩
            obtain rfl : wr = w0 := hw.symm
            clear hw
            go_wp2_with (at_builtin; refine wpList_append_byte byteTypes wr _ rfl _ _ rfl w.heap.size _ _ s[k] rfl rfl hown rfl (by omega) (by omega) ?_; intro v1 w1 hown1 hb1)
            go_roundw
            case rel => exact ⟨k + 1, _, by omega, by go_num, HN.out, hown1, hb.trans hb1⟩
            case measure => simp [intOf]; omega
        · have HE : Hid (headE (s.data.toList.drop k) = none) := headE_short (by simp; omega)
          have HN := hide (decAt_miss HK.out (Nat.zero_le _) hlt HE.out)
          have hi2 : (s.size : Int) - (k : Int) ≤ 2 := by omega
          have q : ((s[k].toNat : Int) == 37) = true := by simpa using h37
          clear h37
          go_wp2_with (at_builtin; refine wpList_append_byte byteTypes wr _ rfl _ _ rfl w.heap.size _ _ s[k] rfl rfl hown rfl (by omega) (by omega) ?_; intro v1 w1 hown1 hb1)
          go_roundw
          case rel => exact ⟨k + 1, _, by omega, by go_num, HN.out, hown1, hb.trans hb1⟩
          case measure => simp [intOf]; omega
      · have HE : Hid (headE (s.data.toList.drop k) = none) := by
          rw [drop1 s k hlt]; exact headE_ne _ (fun e => h37 (by rw [e]; rfl))
        have HN := hide (decAt_miss HK.out (Nat.zero_le _) hlt HE.out)
        have q : ((s[k].toNat : Int) == 37) = false := by simpa using h37
        clear h37
        go_wp2_with (at_builtin; refine wpList_append_byte byteTypes wr _ rfl _ _ rfl w.heap.size _ _ s[k] rfl rfl hown rfl (by omega) (by omega) ?_; intro v1 w1 hown1 hb1)
        go_roundw
        case rel => exact ⟨k + 1, _, by omega, by go_num, HN.out, hown1, hb.trans hb1⟩
        case measure => simp [intOf]; omega
    · have HN := hide (decAt_end HK.out (by omega))
      have hend := hown.text byteTypes
      go_wp2
      go_ret
      exact ⟨ret_str (congrArg txt HN.out), hb⟩

end Go.Proofs.YtcaoamccnibihaaDoor
