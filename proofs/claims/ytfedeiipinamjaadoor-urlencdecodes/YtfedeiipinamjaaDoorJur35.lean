/- Facts of no program. Facts of no program. A text that is read from the left, escapes as their bytes. The document's Decode answers by decL; it changes nothing that was there. The document's Form and Unform answer by functions of lists of bytes. The document's Split, and what a row of texts is. The document's Decode of layer 19. Stage 19's wakes and its laws, walked. -/
import Derived.Test.YtfedeiipinamjaaDoorJur14
import Derived.Test.YtfedeiipinamjaaDoorJur23
import Derived.Test.YtfedeiipinamjaaDoorJur24
import Derived.Test.YtfedeiipinamjaaDoorJur28
import Derived.Test.YtfedeiipinamjaaDoorJur30
import Derived.Test.YtfedeiipinamjaaDoorJur36

namespace Go.Proofs.YtfedeiipinamjaaDoor
open Go.RowKit
theorem ret_int {k : IntKind} {a b : Int} (h : a = b) : Ending.returned (.int k a) = .returned (.int k b) := by rw [h]
end Go.Proofs.YtfedeiipinamjaaDoor

namespace Go.Proofs.YtfedeiipinamjaaDoor
open Go.RowKit
/-- The types of texts and of slices of texts. -/
structure TextTypes (P : Program) (t e : TypeId) : Prop where
  sl : P.underlying t = some (.slice e)
  el : P.underlying e = some .string
  info : (P.info? e).map (fun i => (i.zero, i.size, i.bytes)) = some (some (.string ⟨#[]⟩), 1, 16)
/-- 'out = append(out, s)', s a text: it was laid in a block of its own first. -/
theorem wpList_append_item {P : Program} {t e : TypeId} (tt : TextTypes P t e) {ops : Array Oper} {rest : List Oper} {o : Oper} {a : Act} {Q : Exit → Act → World → Prop} (w : World) (y : ByteArray)
    (hgd : o.guard = none) (s x : Operand) (ho : o.op = .call { callee := .builtin .append, args := #[s, x], argTypes := #[t, t] })
    (base : Nat) (v : Value) (l : List (List UInt8)) (c : List UInt8) (hy : y = txt c) (hs : a.eval s = v) (hown : OwnsT e base w v l)
    (hx : a.eval x = .slice (some ⟨w.heap.size, 0, none⟩) 1 1) (hlen : l.length ≤ 4398046511104) (hbase : base ≤ w.heap.size)
    (h : ∀ v' w', OwnsT e base w' v' (l ++ [c]) → Below base w w' → wpList P ops Q rest (a.put o.dst v') w') : wpList P ops Q (o :: rest) a (w.alloc (.cells #[.string y] e)) := by
  subst hy
  obtain ⟨i, hi, hz0, hz1, hz2⟩ := info_parts tt.info
  have hown' : (w.alloc (.cells #[.string (txt c)] e)).ownsRow base e 1 v l.length (l.map cellT) := World.ownsRow.alloc hown _
  refine wpList_append_own (P := P) _ hgd s x t ho base e i (.string ⟨#[]⟩) 1 16 tt.sl hi hz0 hz1 hz2 rfl (by decide) v l.length (l.map cellT) hs hown' ⟨w.heap.size, 0, none⟩ 1 1 [cellT c] hx rfl (cell_one_new _ _ _) (fun u hu => by simp at hu; subst hu; rfl) (by unfold maxLen; omega) (by omega) (by simp; omega) ?_
  intro v' w' h1 h2 _
  refine h v' w' ?_ (((Below.refl base w).alloc hbase _).trans (grown_below hown' h2 (by simp; omega)))
  simpa [OwnsT] using h1
end Go.Proofs.YtfedeiipinamjaaDoor

namespace Go.Proofs.YtfedeiipinamjaaDoor
open Go.RowKit
theorem decAt_next {s : ByteArray} {k : Nat} {l : List UInt8} (h : DecAt s (k + 1) (k + 3) l) : DecAt s (k + 3) 0 l := by
  refine ⟨Nat.zero_le _, ?_⟩
  have h2 := h.2
  rw [show max (k + 1) (k + 3) = k + 3 by omega] at h2
  rw [show max (k + 3) 0 = k + 3 by omega]; exact h2
theorem drop3 (s : ByteArray) (k : Nat) (h : k + 2 < s.size) : s.data.toList.drop k = s[k] :: s[k + 1] :: s[k + 2] :: s.data.toList.drop (k + 3) := by
  rw [drop1 s k (by omega), drop1 s (k + 1) (by omega), drop1 s (k + 1 + 1) (by omega)]
end Go.Proofs.YtfedeiipinamjaaDoor

namespace Go.Proofs.YtfedeiipinamjaaDoor
open Go.RowKit
def num22 (k : Nat) : Int := if k < 10 then (48 : Int) + k else if k < 16 then (55 : Int) + k else (81 : Int) + k
theorem at22 (k : Nat) (hk : k < (⟨#[48, 49, 50, 51, 52, 53, 54, 55, 56, 57, 65, 66, 67, 68, 69, 70, 97, 98, 99, 100, 101, 102]⟩ : ByteArray).size) : (((⟨#[48, 49, 50, 51, 52, 53, 54, 55, 56, 57, 65, 66, 67, 68, 69, 70, 97, 98, 99, 100, 101, 102]⟩ : ByteArray)[k].toNat : Nat) : Int) = num22 k := by
  have : ∀ n : Fin 22, (((⟨#[48, 49, 50, 51, 52, 53, 54, 55, 56, 57, 65, 66, 67, 68, 69, 70, 97, 98, 99, 100, 101, 102]⟩ : ByteArray)[n.val]'(by have := n.isLt; exact this)).toNat : Int) = num22 n.val := by decide
  exact this ⟨k, hk⟩
def NotTo22 (x : Int) (k : Nat) : Prop := ∀ j, j < k → num22 j ≠ x
theorem notTo22_succ {x : Int} {k : Nat} (h : NotTo22 x k) (he : num22 k ≠ x) : NotTo22 x (k + 1) := by
  intro j hj
  rcases Nat.lt_or_ge j k with h' | h'
  · exact h j h'
  · obtain rfl : j = k := by omega
    exact he
theorem hexV_small {c : UInt8} {k : Nat} (hk : k ≤ 15) (he : num22 k = (c.toNat : Int)) : (k : Int) = hexV c := by
  unfold num22 at he
  unfold hexV
  by_cases h : k < 10
  · rw [if_pos h] at he; rw [if_pos (by omega)]; omega
  · rw [if_neg h, if_pos (by omega)] at he; rw [if_neg (by omega), if_pos (by omega)]; omega
theorem hexV_great {c : UInt8} {k : Nat} (hk : 15 < k) (h22 : k < 22) (he : num22 k = (c.toNat : Int)) : (k : Int) - 6 = hexV c := by
  unfold num22 at he
  rw [if_neg (by omega), if_neg (by omega)] at he
  unfold hexV
  rw [if_neg (by omega), if_neg (by omega), if_pos (by omega)]; omega
theorem hexV_not {c : UInt8} (h : NotTo22 (c.toNat : Int) 22) : -1 = hexV c := by
  unfold hexV
  by_cases h1 : 48 ≤ c.toNat ∧ c.toNat ≤ 57
  · exfalso
    refine h (c.toNat - 48) (by omega) ?_
    unfold num22; rw [if_pos (by omega)]; omega
  · by_cases h2 : 65 ≤ c.toNat ∧ c.toNat ≤ 70
    · exfalso
      refine h (c.toNat - 55) (by omega) ?_
      unfold num22; rw [if_neg (by omega), if_pos (by omega)]; omega
    · by_cases h3 : 97 ≤ c.toNat ∧ c.toNat ≤ 102
      · exfalso
        refine h (c.toNat - 81) (by omega) ?_
        unfold num22; rw [if_neg (by omega), if_neg (by omega)]; omega
      · rw [if_neg h1, if_neg h2, if_neg h3]
set_option maxHeartbeats 1000000 in
theorem refDigit_any (c : UInt8) (w : World) :
    Calls Tryd.prog 48 #[.int .u8 (c.toNat : Int)] w fun e w' => e = .returned (.int .i64 (hexV c)) ∧ w' = w := by
  go_enter Tryd.func48, Tryd.ntmps48
  go_wp2_with fail
  go_loop [4] (fun i => ∃ k : Nat, k ≤ 22 ∧ i = .int .i64 k ∧ NotTo22 (c.toNat : Int) k) (fun i => 22 - (intOf i).toNat)
  case atStart => exact ⟨0, Nat.zero_le _, rfl, fun j hj => absurd hj (Nat.not_lt_zero _)⟩
  case round =>
    obtain ⟨k, hk, rfl, hn⟩ := hrel
    have HN := hide hn
    clear hn
    by_cases hlt : k < 22
    · by_cases he : num22 k = (c.toNat : Int)
      · have q : ((((⟨#[48, 49, 50, 51, 52, 53, 54, 55, 56, 57, 65, 66, 67, 68, 69, 70, 97, 98, 99, 100, 101, 102]⟩ : ByteArray)[k]'hlt).toNat : Int) == (c.toNat : Int)) = true := by rw [at22 k hlt]; simpa using he
        by_cases h15 : k ≤ 15
        · have HV := hide (hexV_small h15 he)
          clear he
          go_wp2
          go_ret
          exact ⟨ret_int HV.out, rfl⟩
        · have HV := hide (hexV_great (by omega) hlt he)
          have h16 : (15 : Int) < (k : Int) := by omega
          clear he
          go_wp2
          go_ret
          exact ⟨ret_int HV.out, rfl⟩
      · have q : ((((⟨#[48, 49, 50, 51, 52, 53, 54, 55, 56, 57, 65, 66, 67, 68, 69, 70, 97, 98, 99, 100, 101, 102]⟩ : ByteArray)[k]'hlt).toNat : Int) == (c.toNat : Int)) = false := by rw [at22 k hlt]; simpa using he
        have HV := hide (notTo22_succ HN.out he)
        clear he
        go_wp2
        go_round
        case rel => exact ⟨k + 1, by omega, by go_num, HV.out⟩
        case measure => simp [intOf]; omega
    · have e : k = 22 := by omega
      subst e
      have HV := hide (hexV_not HN.out)
      go_wp2
      go_ret
      exact ⟨ret_int HV.out, rfl⟩
/-- 'out = append(out, c)' as one step of a statement that draws its order. -/
theorem step_append_byte {P : Program} {t e st : TypeId} (bt : ByteTypes P t e st) {ops : Array Oper} {o : Oper} {a : Act} {K : Act → World → Prop} {Q : Exit → Act → World → Prop} {E : Prop} (w : World) (y : Int)
    (hgd : o.guard = none) (s x : Operand) (ho : o.op = .call { callee := .builtin .append, args := #[s, x], argTypes := #[t, t] })
    (base : Nat) (v : Value) (l : List UInt8) (c : UInt8) (hy : y = (c.toNat : Int)) (hs : a.eval s = v) (hown : OwnsB e base w v l)
    (hx : a.eval x = .slice (some ⟨w.heap.size, 0, none⟩) 1 1) (hlen : l.length ≤ 70368744177664) (hbase : base ≤ w.heap.size)
    (h : ∀ v' w', OwnsB e base w' v' (l ++ [c]) → Below base w w' → K (a.put o.dst v') w') : if Region.wanted o (yielded ops a.tmps) = true then Oper.wp P o a (w.alloc (.cells #[.int .u8 y] e)).drew K Q else E := by
  subst hy
  obtain ⟨i, hi, hz0, hz1, hz2⟩ := info_parts bt.info
  have hown0 : (w.alloc (.cells #[.int .u8 (c.toNat : Int)] e)).ownsRow base e 1 v l.length (l.map cellB) := World.ownsRow.alloc hown _
  have hown' : (w.alloc (.cells #[.int .u8 (c.toNat : Int)] e)).drew.ownsRow base e 1 v l.length (l.map cellB) := ownsRow_below hown0 (Below.drew (Below.refl _ _))
  refine step_append_lies _ hgd s x t ho base e i (.int .u8 0) 1 1 bt.sl hi hz0 hz1 hz2 rfl (by decide) v l.length (l.map cellB) hs hown' ⟨w.heap.size, 0, none⟩ 1 1 [cellB c] hx rfl (cell_one_new _ _ _) (fun u hu => by simp at hu; subst hu; rfl) (by decide) (by unfold maxLen; omega) (by omega) (by simp; omega) _ rfl ?_
  intro g cap w' h1 h2 _ _
  refine h _ w' ?_ (((Below.refl base w).alloc hbase _).drew.trans (grown_below hown' h2 (by simp; omega)))
  simpa [OwnsB] using h1
theorem wrap_i {x : Int} (h1 : -9223372036854775808 ≤ x) (h2 : x ≤ 9223372036854775807) : IntKind.i64.wrap x = x := by
  rw [IntKind.wrap_i64]; omega
theorem wrap_b {x : Int} (h1 : 0 ≤ x) (h2 : x ≤ 255) : IntKind.u8.wrap x = x := by
  simp [IntKind.wrap, IntKind.signed, IntKind.bits]; omega
set_option maxHeartbeats 2000000 in
theorem refDecode_any (s : ByteArray) (w : World) (hs : s.size ≤ 1099511627776) :
    Calls Tryd.prog 36 #[.string s] w fun r w' => r = .returned (.string (decS s)) ∧ Below w.heap.size w w' := by
  go_enter Tryd.func36, Tryd.ntmps36
  go_wp2_with fail
  go_loopw [3, 4] (fun v i wr => ∃ (k : Nat) (l : List UInt8), k ≤ s.size ∧ i = .int .i64 k ∧ DecAt s k 0 l ∧ OwnsB 5 w.heap.size wr v l ∧ Below w.heap.size w wr) (fun _ i _ => s.size - (intOf i).toNat)
  case atStart => exact ⟨0, [], Nat.zero_le _, rfl, decAt_start s, OwnsB.nil _ _ _, Below.refl _ _⟩
  case round =>
    obtain ⟨k, l, hk, rfl, hd, hown, hb⟩ := hrel
    have hle := decAt_len hd
    have HK := hide hd
    have hsz := hb.size
    clear hd
    by_cases hlt : k < s.size
    · by_cases h37 : (s[k].toNat : Int) = 37
      · by_cases h2 : k + 2 < s.size
        · have hD := drop3 s k h2
          have hx := fun w => refDigit_any (s[k + 1]'(by omega)) w
          have hy := fun w => refDigit_any (s[k + 2]'h2) w
          have gx := hexV_lt (s[k + 1]'(by omega))
          have gy := hexV_lt (s[k + 2]'h2)
          have hi2 : (2 : Int) < (s.size : Int) - (k : Int) := by omega
          have hi3 : (k : Int) + 1 < (s.size : Int) := by omega
          have hi4 : (k : Int) + 2 < (s.size : Int) := by omega
          have q : ((s[k].toNat : Int) == 37) = true := by simpa using h37
          have h0 : s[k] = 37 := UInt8.toNat_inj.1 (by show _ = 37; omega)
          by_cases ha : 0 ≤ hexV (s[k + 1]'(by omega))
          · obtain ⟨a, ea⟩ : ∃ a : Nat, hexV (s[k + 1]'(by omega)) = a := ⟨(hexV (s[k + 1]'(by omega))).toNat, by omega⟩
            have ha16 : a < 16 := by omega
            by_cases hb' : 0 ≤ hexV (s[k + 2]'h2)
            · obtain ⟨b, eb⟩ : ∃ b : Nat, hexV (s[k + 2]'h2) = b := ⟨(hexV (s[k + 2]'h2)).toNat, by omega⟩
              have hb16 : b < 16 := by omega
              have HE : Hid (headE (s.data.toList.drop k) = some (two (s[k + 1]'(by omega)) (s[k + 2]'h2))) := by
                rw [hD, h0]; exact headE_yes _ ha hb'
              have HN := hide (decAt_next (decAt_hit HK.out (Nat.zero_le _) HE.out))
              have HV := hide (two_num ea eb ha16 hb16).symm
              rw [ea] at hx
              rw [eb] at hy
              have HX := hide hx
              have HY := hide hy
              have EA := hide ea
              have EB := hide eb
              clear hx hy ea eb h37 h0 ha hb' hD gx gy
              go_wp2_with fail
              refine (HX.out _).mono ?_
              rintro e w0 ⟨rfl, hw⟩
              obtain rfl : wr = w0 := hw.symm
              clear hw
              go_wp2_with fail
              refine (HY.out _).mono ?_
              rintro e w0 ⟨rfl, hw⟩
              obtain rfl : wr = w0 := hw.symm
              clear hw
              go_wp2_with fail
              have t1 : ((k : Int) + 1).toNat = k + 1 := by omega
              have t2 : ((k : Int) + 2).toNat = k + 2 := by omega
              have ea := EA.out
              have eb := EB.out
              have e1 : IntKind.i64.wrap ((k : Int) + 1) = (k : Int) + 1 := wrap_i (by omega) (by omega)
              have e2 : IntKind.i64.wrap ((k : Int) + 2) = (k : Int) + 2 := wrap_i (by omega) (by omega)
              have e3 : IntKind.i64.wrap ((a : Int) * 16) = (a : Int) * 16 := wrap_i (by omega) (by omega)
              have e4 : IntKind.i64.wrap ((a : Int) * 16 + (b : Int)) = (a : Int) * 16 + (b : Int) := wrap_i (by omega) (by omega)
              have e5 : IntKind.u8.wrap ((a : Int) * 16 + (b : Int)) = (a : Int) * 16 + (b : Int) := wrap_b (by omega) (by omega)
              go_region_law (first
                | (go_simp; go_at_call 48; refine (refDigit_any _ _).mono ?_; rintro e w0 ⟨rfl, hw⟩; subst hw; go_wp2_with fail)
                | (refine step_append_byte byteTypes wr _ rfl _ _ rfl w.heap.size _ _ (two (s[k + 1]'(by omega)) (s[k + 2]'h2)) (by first | exact HV.out | (simp only [t1, t2, EA.out, EB.out, e3, e4, e5]; exact HV.out)) (by simp [Act.eval]) hown (by simp [Act.eval]) (by omega) (by omega) ?_; intro v1 w1 hown1 hb1))
              all_goals
                go_wp2_with fail
                go_roundw
                case rel => exact ⟨k + 3, _, by omega, by go_num, HN.out, hown1, hb.trans hb1⟩
                case measure => simp [intOf]; omega
            · have HE : Hid (headE (s.data.toList.drop k) = none) := by
                rw [hD]; exact headE_noB _ hb'
              have HN := hide (decAt_miss HK.out (Nat.zero_le _) hlt HE.out)
              have hbn : hexV (s[k + 2]'h2) < 0 := by omega
              rw [ea] at hx
              have HX := hide hx
              have HY := hide hy
              clear hx hy ea h37 h0 ha hb' hD gx gy
              go_wp2_with fail
              refine (HX.out _).mono ?_
              rintro e w0 ⟨rfl, hw⟩
              obtain rfl : wr = w0 := hw.symm
              clear hw
              go_wp2_with fail
              refine (HY.out _).mono ?_
              rintro e w0 ⟨rfl, hw⟩
              obtain rfl : wr = w0 := hw.symm
              clear hw
              go_wp2_with (at_builtin; refine wpList_append_byte byteTypes wr _ rfl _ _ rfl w.heap.size _ _ s[k] rfl rfl hown rfl (by omega) (by omega) ?_; intro v1 w1 hown1 hb1)
              go_roundw
              case rel => exact ⟨k + 1, _, by omega, by go_num, HN.out, hown1, hb.trans hb1⟩
              case measure => simp [intOf]; omega
          · have HE : Hid (headE (s.data.toList.drop k) = none) := by
              rw [hD]; exact headE_noA _ ha
            have HN := hide (decAt_miss HK.out (Nat.zero_le _) hlt HE.out)
            have han : hexV (s[k + 1]'(by omega)) < 0 := by omega
            have HX := hide hx
            clear hx hy h37 h0 ha hD gx gy
            go_wp2_with fail
            refine (HX.out _).mono ?_
            rintro e w0 ⟨rfl, hw⟩
            obtain rfl : wr = w0 := hw.symm
            clear hw
            go_wp2_with (at_builtin; refine wpList_append_byte byteTypes wr _ rfl _ _ rfl w.heap.size _ _ s[k] rfl rfl hown rfl (by omega) (by omega) ?_; intro v1 w1 hown1 hb1)
            go_roundw
            case rel => exact ⟨k + 1, _, by omega, by go_num, HN.out, hown1, hb.trans hb1⟩
            case measure => simp [intOf]; omega
        · have HE : Hid (headE (s.data.toList.drop k) = none) := headE_short (by simp; omega)
          have HN := hide (decAt_miss HK.out (Nat.zero_le _) hlt HE.out)
          have hi2 : (s.size : Int) - (k : Int) ≤ 2 := by omega
          have q : ((s[k].toNat : Int) == 37) = true := by simpa using h37
          clear h37
          go_wp2_with (at_builtin; refine wpList_append_byte byteTypes wr _ rfl _ _ rfl w.heap.size _ _ s[k] rfl rfl hown rfl (by omega) (by omega) ?_; intro v1 w1 hown1 hb1)
          go_roundw
          case rel => exact ⟨k + 1, _, by omega, by go_num, HN.out, hown1, hb.trans hb1⟩
          case measure => simp [intOf]; omega
      · have HE : Hid (headE (s.data.toList.drop k) = none) := by
          rw [drop1 s k hlt]; exact headE_ne _ (fun e => h37 (by rw [e]; rfl))
        have HN := hide (decAt_miss HK.out (Nat.zero_le _) hlt HE.out)
        have q : ((s[k].toNat : Int) == 37) = false := by simpa using h37
        clear h37
        go_wp2_with (at_builtin; refine wpList_append_byte byteTypes wr _ rfl _ _ rfl w.heap.size _ _ s[k] rfl rfl hown rfl (by omega) (by omega) ?_; intro v1 w1 hown1 hb1)
        go_roundw
        case rel => exact ⟨k + 1, _, by omega, by go_num, HN.out, hown1, hb.trans hb1⟩
        case measure => simp [intOf]; omega
    · have HN := hide (decAt_end HK.out (by omega))
      have hend := hown.text byteTypes
      go_wp2
      go_ret
      exact ⟨ret_str (congrArg txt HN.out), hb⟩
end Go.Proofs.YtfedeiipinamjaaDoor

namespace Go.Proofs.YtfedeiipinamjaaDoor
open Go.RowKit
theorem unplus_take (s : ByteArray) (k : Nat) (h : k < s.size) : unplus (s.data.toList.take (k + 1)) = unplus (s.data.toList.take k) ++ [if s[k] = 43 then 32 else s[k]] := by
  rw [byteAt_take s k h, unplus_append, ← byteAt_eq s k h]; rfl
theorem unplus_len (l : List UInt8) : (unplus l).length = l.length := by simp [unplus]
set_option maxHeartbeats 400000 in
theorem turned_any (s : ByteArray) (w : World) (hs : s.size ≤ 1099511627776) :
    Calls Tryd.prog 37 #[.string s, .int .u8 43, .int .u8 32] w fun r w' => r = .returned (.string (txt (unplus s.data.toList))) ∧ Below w.heap.size w w' := by
  go_enter Tryd.func37, Tryd.ntmps37
  go_wp2_with fail
  go_loopw [7, 8] (fun v i wr => ∃ k : Nat, k ≤ s.size ∧ i = .int .i64 k ∧ OwnsB 5 w.heap.size wr v (unplus (s.data.toList.take k)) ∧ Below w.heap.size w wr) (fun _ i _ => s.size - (intOf i).toNat)
  case atStart => exact ⟨0, Nat.zero_le _, rfl, OwnsB.nil _ _ _, Below.refl _ _⟩
  case round =>
    obtain ⟨k, hk, rfl, hown, hb⟩ := hrel
    by_cases hlt : k < s.size
    · have hle : (unplus (s.data.toList.take k)).length ≤ k := by rw [unplus_len]; exact List.length_take_le _ _
      have HT := hide (unplus_take s k hlt)
      have hsz := hb.size
      by_cases h43 : (s[k].toNat : Int) = 43
      · have q : ((s[k].toNat : Int) == 43) = true := by simpa using h43
        have h0 : s[k] = 43 := UInt8.toNat_inj.1 (by show _ = 43; omega)
        have HG : Hid ((if s[k] = 43 then (32 : UInt8) else s[k]) = 32) := by rw [if_pos h0]; exact rfl
        clear h43 h0
        go_wp2_with (at_builtin; refine wpList_append_byte byteTypes wr _ rfl _ _ rfl w.heap.size _ _ 32 rfl rfl hown rfl (by omega) (by omega) ?_; intro v1 w1 hown1 hb1)
        go_roundw
        case rel => exact ⟨k + 1, by omega, by go_num, by rw [HT.out, HG.out]; exact hown1, hb.trans hb1⟩
        case measure => simp [intOf]; omega
      · have q : ((s[k].toNat : Int) == 43) = false := by simpa using h43
        have HG : Hid ((if s[k] = 43 then (32 : UInt8) else s[k]) = s[k]) := by rw [if_neg (fun e => h43 (by rw [e]; rfl))]; exact rfl
        clear h43
        go_wp2_with (at_builtin; refine wpList_append_byte byteTypes wr _ rfl _ _ rfl w.heap.size _ _ s[k] rfl rfl hown rfl (by omega) (by omega) ?_; intro v1 w1 hown1 hb1)
        go_roundw
        case rel => exact ⟨k + 1, by omega, by go_num, by rw [HT.out, HG.out]; exact hown1, hb.trans hb1⟩
        case measure => simp [intOf]; omega
    · have e : k = s.size := by omega
      subst e
      have ht : s.data.toList.take s.size = s.data.toList := List.take_of_length_le (by simp)
      rw [ht] at hown
      have hend := hown.text byteTypes
      go_wp2
      go_ret
      exact ⟨rfl, hb⟩
set_option maxHeartbeats 400000 in
theorem refUnform_any (s : ByteArray) (w : World) (hs : s.size ≤ 1099511627776) :
    Calls Tryd.prog 27 #[.string s] w fun r w' => r = .returned (.string (unformS s)) ∧ Below w.heap.size w w' := by
  have hC := fun w => refDecode_any (txt (unplus s.data.toList)) w (by rw [txt_size, unplus_len]; simp; omega)
  have HC := hide hC
  clear hC
  go_enter Tryd.func27, Tryd.ntmps27
  go_wp2_with fail
  refine (turned_any s w hs).mono ?_
  rintro e w1 ⟨rfl, b1⟩
  go_wp2_with fail
  refine (HC.out _).mono ?_
  rintro e w2 ⟨rfl, b2⟩
  go_wp2_with fail
  go_ret
  exact ⟨rfl, chain b1 b2⟩
end Go.Proofs.YtfedeiipinamjaaDoor

namespace Go.Proofs.YtfedeiipinamjaaDoor
open Go.RowKit
set_option maxRecDepth 100000
theorem textTypes : TextTypes Tryd.prog 45 9 := ⟨Tryd.underlying45, Tryd.underlying9, by kernel_rfl⟩
/-- A piece of a text. -/
def subL (s : ByteArray) (j k : Nat) : List UInt8 := (s.data.toList.drop j).take (k - j)
theorem subL_txt (s : ByteArray) (j k : Nat) : s.extract j k = txt (subL s j k) := by
  apply ByteArray.ext
  apply Array.ext'
  show (s.extract j k).data.toList = (s.data.toList.drop j).take (k - j)
  simp
theorem drop_cons {s : ByteArray} {k : Nat} (hk : k < s.size) : s.data.toList.drop k = s[k] :: s.data.toList.drop (k + 1) := by
  have : s[k] = s.data.toList[k]'(by simpa using hk) := by simp; rfl
  rw [this]; exact List.drop_eq_getElem_cons _
theorem subL_same (s : ByteArray) (k : Nat) : subL s k k = [] := by unfold subL; rw [Nat.sub_self, List.take_zero]
theorem subL_next {s : ByteArray} {j k : Nat} (h : j ≤ k) (hk : k < s.size) : subL s j (k + 1) = subL s j k ++ [s[k]] := by
  unfold subL
  rw [show k + 1 - j = (k - j) + 1 by omega, List.take_add_one, List.getElem?_drop, show j + (k - j) = k by omega]
  have : s.data.toList[k]? = some s[k] := by
    have e : s[k] = s.data.toList[k]'(by simpa using hk) := by simp; rfl
    rw [e]; exact List.getElem?_eq_getElem _
  rw [this]; rfl
structure SpAt (s : ByteArray) (c : UInt8) (k q : Nat) (done : List (List UInt8)) : Prop where
  le : q ≤ k
  is : k ≤ s.size → splitL c s.data.toList = done ++ prep (subL s q k) (splitL c (s.data.toList.drop k))
  all : s.size < k → splitL c s.data.toList = done
  len : done.length ≤ k
theorem sp_zero (s : ByteArray) (c : UInt8) : SpAt s c 0 0 [] := ⟨Nat.le_refl _, fun _ => by rw [subL_same, List.drop_zero, prep_nil, List.nil_append], fun h => by omega, Nat.le_refl _⟩
theorem sp_miss {s : ByteArray} {c : UInt8} {k q : Nat} {done : List (List UInt8)} (h : SpAt s c k q done) (hk : k < s.size) (hc : ¬ s[k] = c) : SpAt s c (k + 1) q done :=
  ⟨by have := h.le; omega, fun _ => by rw [h.is (by omega), drop_cons hk, split_miss _ hc, prep_prep, subL_next h.le hk], fun g => by omega, by have := h.len; omega⟩
theorem sp_hit {s : ByteArray} {c : UInt8} {k q : Nat} {done : List (List UInt8)} (h : SpAt s c k q done) (hk : k < s.size) (hc : s[k] = c) : SpAt s c (k + 1) (k + 1) (done ++ [subL s q k]) :=
  ⟨Nat.le_refl _, fun _ => by rw [h.is (by omega), drop_cons hk, hc, split_hit, subL_same, prep_nil, List.append_assoc]; show done ++ ((subL s q k ++ []) :: _) = _; rw [List.append_nil]; rfl, fun g => by omega, by have := h.len; simp; omega⟩
theorem sp_last {s : ByteArray} {c : UInt8} {q : Nat} {done : List (List UInt8)} (h : SpAt s c s.size q done) : SpAt s c (s.size + 1) (s.size + 1) (done ++ [subL s q s.size]) :=
  ⟨Nat.le_refl _, fun g => by omega, fun _ => by rw [h.is (Nat.le_refl _), List.drop_of_length_le (by simp)]; show done ++ [subL s q s.size ++ []] = _; rw [List.append_nil], by have := h.len; simp; omega⟩
theorem byte_eq {a b : UInt8} (h : (a.toNat : Int) = (b.toNat : Int)) : a = b := UInt8.toNat_inj.1 (by omega)
set_option maxHeartbeats 2000000 in
set_option maxRecDepth 100000 in
theorem refSplit_any (s : ByteArray) (c : UInt8) (w : World) (hs : s.size ≤ 1048576) :
    Calls Tryd.prog 26 #[.string s, .int .u8 (c.toNat : Int)] w fun e w' => ∃ v, e = .returned v ∧ OwnsT 9 w.heap.size w' v (splitL c s.data.toList) ∧ Below w.heap.size w w' := by
  go_enter Tryd.func26, Tryd.ntmps26
  go_wp2_with fail
  go_loopw [5, 6, 7] (fun v f i wr => ∃ (k q : Nat) (done : List (List UInt8)), k ≤ s.size + 1 ∧ i = .int .i64 k ∧ f = .int .i64 q ∧ SpAt s c k q done ∧ OwnsT 9 w.heap.size wr v done ∧ Below w.heap.size w wr) (fun _ _ i _ => s.size + 1 - (intOf i).toNat)
  case atStart => exact ⟨0, 0, [], Nat.zero_le _, rfl, rfl, sp_zero s c, OwnsT.nil _ _ _, Below.refl _ _⟩
  case round =>
    obtain ⟨k, q, done, hk, rfl, rfl, hw, hown, hb⟩ := hrel
    have hlen := hw.len
    have hq := hw.le
    have hsz := hb.size
    by_cases hle : k ≤ s.size
    · by_cases hlt : k < s.size
      · by_cases hc : s[k] = c
        · have HW := hide (sp_hit hw hlt hc)
          have HX := hide (subL_txt s q k)
          have i1 : (k : Int) < (s.size : Int) := by omega
          have i2 : ((k : Int) == (s.size : Int)) = false := by simp; omega
          have i3 : ((s[k].toNat : Int) == (c.toNat : Int)) = true := by rw [hc]; simp
          clear hw hc
          go_wp2_with (at_builtin; refine wpList_append_item textTypes _ _ rfl _ _ rfl w.heap.size _ _ (subL s q k) HX.out rfl hown rfl (by omega) (by omega) ?_; intro v' w' hown' hb')
          go_roundw
          case rel => exact ⟨k + 1, k + 1, done ++ [subL s q k], by omega, by go_num, by go_num, HW.out, hown', hb.trans hb'⟩
          case measure => simp [intOf]; omega
        · have HW := hide (sp_miss hw hlt hc)
          have i1 : (k : Int) < (s.size : Int) := by omega
          have i2 : ((k : Int) == (s.size : Int)) = false := by simp; omega
          have i3 : ((s[k].toNat : Int) == (c.toNat : Int)) = false := by
            rw [beq_eq_false_iff_ne]
            exact fun e => hc (byte_eq e)
          clear hw hc
          go_wp2_with fail
          go_roundw
          case rel => exact ⟨k + 1, q, done, by omega, by go_num, rfl, HW.out, hown, hb⟩
          case measure => simp [intOf]; omega
      · obtain rfl : k = s.size := by omega
        have HW := hide (sp_last hw)
        have HX := hide (subL_txt s q s.size)
        clear hw hlt
        go_wp2_with (at_builtin; refine wpList_append_item textTypes _ _ rfl _ _ rfl w.heap.size _ _ (subL s q s.size) HX.out rfl hown rfl (by omega) (by omega) ?_; intro v' w' hown' hb')
        go_roundw
        case rel => exact ⟨s.size + 1, s.size + 1, done ++ [subL s q s.size], by omega, by go_num, by go_num, HW.out, hown', hb.trans hb'⟩
        case measure => simp [intOf]
    · have HE := hide (hw.all (by omega))
      have hi : ¬ (k : Int) ≤ (s.size : Int) := by omega
      go_wp2_with fail
      go_ret
      exact ⟨_, rfl, by rw [HE.out]; exact hown, hb⟩
theorem drop_txt (s : ByteArray) (k : Nat) : s.extract k s.size = txt (s.data.toList.drop k) := by
  rw [subL_txt]
  unfold subL
  rw [List.take_of_length_le (by simp)]
/-- What a row of texts is, for a loop over it. -/
theorem row_form {w1 : World} {base : Nat} {v : Value} {ws : List (List UInt8)} (hv : OwnsT 9 base w1 v ws) (hn : ws ≠ []) : ∃ g cap, v = .slice (some ⟨g, 0, none⟩) ws.length cap ∧ g < w1.heap.size ∧ ∀ i (h : i < ws.length), w1.cell? ⟨g, i, none⟩ = some (.string (txt ws[i])) := by
  rcases hv.2 with ⟨h1, h2⟩ | ⟨g, cap, cur, h1, h2, h3, h4⟩
  · exact absurd (List.eq_nil_of_length_eq_zero h2) hn
  · refine ⟨g, cap, h1, ?_, fun i h => ?_⟩
    · rcases Nat.lt_or_ge g w1.heap.size with h' | h'
      · exact h'
      · simp [Array.getElem?_eq_none h'] at h3
    · subst h1
      rw [World.ownsRow.cellAt hv i (by omega)]
      simp [cellT, h]
theorem prep_sum (a : List UInt8) (m : List (List UInt8)) : ((prep a m).map List.length).sum = a.length + (m.map List.length).sum := by
  cases m with
  | nil => simp [prep]
  | cons h t => simp [prep]; omega
theorem split_sum (c : UInt8) : ∀ l : List UInt8, ((splitL c l).map List.length).sum ≤ l.length
  | [] => by simp [splitL]
  | x :: l => by
    have ih := split_sum c l
    by_cases h : x = c
    · subst h
      rw [split_hit]
      simp only [List.map_cons, List.length_nil, List.sum_cons, List.length_cons]
      omega
    · rw [split_miss l h, prep_sum]
      simp only [List.length_cons, List.length_nil]
      omega
theorem split_count (c : UInt8) : ∀ l : List UInt8, (splitL c l).length ≤ l.length + 1
  | [] => by simp [splitL]
  | x :: l => by
    have ih := split_count c l
    by_cases h : x = c
    · subst h
      rw [split_hit]
      simp only [List.length_cons]
      omega
    · rw [split_miss l h]
      have : (prep [x] (splitL c l)).length ≤ (splitL c l).length + 1 := by
        cases splitL c l with
        | nil => simp [prep]
        | cons => simp [prep]
      have h2 : (prep [x] (splitL c l)).length = (splitL c l).length := by
        cases e : splitL c l with
        | nil => exact absurd e (split_ne c l)
        | cons => rfl
      rw [h2, List.length_cons]; omega
theorem mem_sum {p : List UInt8} : ∀ {ps : List (List UInt8)}, p ∈ ps → p.length ≤ (ps.map List.length).sum
  | q :: ps, h => by
    rcases List.mem_cons.1 h with e | e
    · subst e; simp
    · have := mem_sum e
      simp only [List.map_cons, List.sum_cons]; omega
theorem split_mem {c : UInt8} {l p : List UInt8} (h : p ∈ splitL c l) : p.length ≤ l.length := Nat.le_trans (mem_sum h) (split_sum c l)
end Go.Proofs.YtfedeiipinamjaaDoor

namespace Go.Proofs.YtfedeiipinamjaaDoor
open Go.RowKit
set_option maxRecDepth 100000
theorem first_eq {p : List UInt8} : ∀ {j : Nat}, j ≤ p.length → (∀ i (h : i < p.length), i < j → p[i] ≠ 61) → (j = p.length ∨ ∃ h : j < p.length, p[j] = 61) → p.takeWhile notEq = p.take j ∧ (p.dropWhile notEq).drop 1 = p.drop (j + 1) := by
  induction p with
  | nil => intro j _ _ _; simp
  | cons x p ih =>
    intro j hj hb he
    match j with
    | 0 =>
      rcases he with he | ⟨_, he⟩
      · cases he
      · have hx : notEq x = false := by unfold notEq; have : x = 61 := he; rw [this]; rfl
        rw [List.takeWhile_cons_of_neg (by rw [hx]; decide), List.dropWhile_cons_of_neg (by rw [hx]; decide)]
        exact ⟨rfl, rfl⟩
    | j + 1 =>
      have hx : notEq x = true := by unfold notEq; rw [bne_iff_ne]; exact hb 0 (by simp) (by omega)
      have := ih (j := j) (by simpa using hj) (fun i h hi => hb (i + 1) (by simpa using h) (by omega)) (by
        rcases he with he | ⟨h, he⟩
        · exact .inl (by simpa using he)
        · exact .inr ⟨by simpa using h, by simpa using he⟩)
      rw [List.takeWhile_cons_of_pos hx, List.dropWhile_cons_of_pos hx, this.1, this.2]
      exact ⟨rfl, rfl⟩
/-- What is read of the first k pieces. -/
def decT (ws : List (List UInt8)) (k : Nat) : List En := ((ws.take k).filter someB).map decE
theorem decT_no {ws : List (List UInt8)} {k : Nat} (h : k < ws.length) (hp : someB ws[k] = false) : decT ws (k + 1) = decT ws k := by
  unfold decT
  rw [List.take_succ_eq_append_getElem h, List.filter_append, List.filter_cons_of_neg (by rw [hp]; decide), List.filter_nil, List.append_nil]
theorem decT_yes {ws : List (List UInt8)} {k : Nat} (h : k < ws.length) (hp : someB ws[k] = true) : decT ws (k + 1) = decT ws k ++ [decE ws[k]] := by
  unfold decT
  rw [List.take_succ_eq_append_getElem h, List.filter_append, List.filter_cons_of_pos hp, List.filter_nil, List.map_append]
  rfl
theorem decT_len (ws : List (List UInt8)) (k : Nat) : (decT ws k).length ≤ ws.length := by
  unfold decT
  rw [List.length_map]
  exact Nat.le_trans (List.length_filter_le _ _) (by rw [List.length_take]; omega)
theorem unform_txt (p : List UInt8) : unformS (txt p) = txt (unf p) := rfl
theorem txt_take (p : List UInt8) (j : Nat) : (txt p).extract 0 j = txt (p.take j) := by
  rw [subL_txt]
  unfold subL
  simp [txt]
theorem txt_drop (p : List UInt8) (j : Nat) : (txt p).extract j (txt p).size = txt (p.drop j) := by
  rw [drop_txt]
  simp [txt]
set_option maxHeartbeats 8000000 in
theorem refDecode19_any (s : ByteArray) (w : World) (hs : s.size ≤ 1048576) :
    Calls Tryd.prog 16 #[.string s] w fun e w' => ∃ v', e = .returned v' ∧ OwnR w.heap.size w' v' (decU s.data.toList) ∧ Below w.heap.size w w' := by
  have HS := hide (refSplit_any s 38 w hs)
  have NE : Hid (splitL 38 s.data.toList ≠ []) := split_ne 38 _
  have CN := hide (split_count 38 s.data.toList)
  have SM := hide (fun (p : List UInt8) (h : p ∈ splitL 38 s.data.toList) => split_mem h)
  have EE : Hid (decT (splitL 38 s.data.toList) (splitL 38 s.data.toList).length = decU s.data.toList) := by show _ = _; unfold decT; rw [List.take_length]; rfl
  have z1 : s.data.toList.length ≤ 1048576 := by simpa using hs
  generalize decU s.data.toList = RES at *
  generalize splitL 38 s.data.toList = ws at *
  have c1 : ws.length ≤ 1048577 := by have := CN.out; omega
  have SZ : Hid (∀ p ∈ ws, p.length ≤ 1048576) := fun p hp => Nat.le_trans (SM.out p hp) z1
  clear CN SM z1 hs
  go_enter Tryd.func16, Tryd.ntmps16
  go_wp2_with fail
  refine HS.out.mono ?_
  rintro e wp ⟨vp, rfl, op, bp⟩
  obtain ⟨g, cap, rfl, hg, hrow⟩ := row_form op NE.out
  have BP := hide bp
  have RW := hide hrow
  clear op bp HS NE hrow
  go_wp2_with fail
  go_loopw [3, 5] (fun ov iv wr => ∃ (k : Nat) (q : Option Addr) (cp : Nat), k ≤ ws.length ∧ iv = .int .i64 k ∧ ov = .slice q (decT ws k).length cp ∧ Hid (OwnR wp.heap.size wr (.slice q (decT ws k).length cp) (decT ws k)) ∧ Hid (Below wp.heap.size wp wr)) (fun _ iv _ => ws.length - (intOf iv).toNat)
  case atStart => exact ⟨0, none, 0, Nat.zero_le _, rfl, rfl, OwnR.nil _ _, Below.refl _ _⟩
  case round =>
    rename World => wr
    obtain ⟨k, q, cp, hk, rfl, rfl, OW, BW⟩ := hrel
    by_cases gk : k < ws.length
    · have k1 : (k : Int) < (ws.length : Int) := by omega
      have k0 : (0 : Int) ≤ (k : Int) := by omega
      have x0 := cell_below (RW.out k gk) BW.out
      have sz := SZ.out _ (List.getElem_mem gk)
      have DL := decT_len ws k
      cases sm : someB ws[k] with
      | false =>
        have e0 : ws[k] = [] := by
          unfold someB at sm
          cases h : ws[k] with
          | nil => rfl
          | cons => rw [h] at sm; cases sm
        have TK := hide (decT_no gk sm)
        rw [e0] at x0
        clear e0 sm RW SZ EE
        go_wp2_with fail
        go_roundw
        case rel => exact ⟨k + 1, q, cp, by omega, by go_num, by rw [TK.out], by rw [TK.out]; exact OW, BW⟩
        case measure => simp [intOf]; omega
      | true =>
        have TK := hide (decT_yes gk sm)
        have FE := hide (fun j a b c => first_eq (p := (ws[k]'gk)) (j := j) a b c)
        have p0 : 0 < ws[k].length := by
          unfold someB at sm
          cases h : ws[k] with
          | nil => rw [h] at sm; cases sm
          | cons => simp
        have eD : Hid (decE ws[k] = ⟨txt (unf (ws[k].takeWhile notEq)), txt (unf ((ws[k].dropWhile notEq).drop 1)), false, ⟨#[]⟩, ⟨#[]⟩⟩) := rfl
        clear sm RW SZ EE
        generalize decE ws[k] = de at *
        generalize ws[k] = p at *
        have tz : (txt p).size = p.length := rfl
        have TA : Hid (∀ i (h : i < (txt p).size) (h2 : i < p.length), (txt p)[i]'h = p[i]'h2) := fun i h _ => txt_at p i h
        have TT := hide (txt_take p)
        have TD := hide (txt_drop p)
        have TX : Hid (unformS (txt p) = txt (unf p)) := unform_txt p
        generalize txt p = t at *
        have e1 : ((t.size : Int) == 0) = false := by rw [beq_eq_false_iff_ne]; omega
        have e2 : ¬ (t.size : Int) = 0 := by omega
        have tsz : t.size ≤ 1048576 := by omega
        have TZ := hide tz
        clear tz
        go_wp2_with fail
        go_loop [6] (fun jv => ∃ j : Nat, j ≤ t.size ∧ jv = .int .i64 j ∧ Hid (∀ i (h : i < p.length), i < j → p[i] ≠ 61)) (fun jv => t.size - (intOf jv).toNat)
        case atStart => exact ⟨0, Nat.zero_le _, rfl, fun i h hi => by omega⟩
        case round =>
          obtain ⟨j, hj, rfl, HN⟩ := hrel
          have j0 : (0 : Int) ≤ (j : Int) := by omega
          have uz0 : (0 : Int) ≤ 0 := by omega
          by_cases gj : j < t.size
          · have j1 : (j : Int) < (t.size : Int) := by omega
            have jp : j < p.length := by have := TZ.out; omega
            have ta := TA.out j gj jp
            by_cases eq : p[j] = 61
            · have q1 : ((t[j].toNat : Int) != 61) = false := by rw [ta, eq]; rfl
              have q2 : ((t[j].toNat : Int) == 61) = true := by rw [ta, eq]; rfl
              obtain ⟨f1, f2⟩ := FE.out j (by omega) HN.out (.inr ⟨jp, eq⟩)
              rw [f1, f2] at eD
              have HU := hide (fun W => refUnform_any (t.extract 0 j) W (by simp; omega))
              have HU2 := hide (fun W => refUnform_any (t.extract (j + 1) t.size) W (by simp; omega))
              have eU : unformS (t.extract 0 j) = txt (unf (List.take j p)) := by rw [TT.out, unform_txt]
              have eU2 : unformS (t.extract (j + 1) t.size) = txt (unf (List.drop (j + 1) p)) := by rw [TD.out, unform_txt]
              rw [eU] at HU
              rw [eU2] at HU2
              clear ta eq f1 f2 FE HN TA TT TD TZ TX jp eU eU2
              generalize txt (unf (List.take j p)) = n0 at *
              generalize txt (unf (List.drop (j + 1) p)) = n1 at *
              have jz : (j : Int) ≤ (t.size : Int) := by omega
              have jz1 : (j : Int) + 1 ≤ (t.size : Int) := by omega
              have jz0 : (0 : Int) ≤ (j : Int) + 1 := by omega
              go_wp2_with fail
              refine (HU.out _).mono ?_
              rintro e w1 ⟨rfl, b1⟩
              have K1 := hide (Bk.new w1 [.string n0, .string ⟨#[]⟩, .bool false, .string ⟨#[]⟩, .string ⟨#[]⟩] 31)
              have AL1 : Hid (Below w1.heap.size w1 (w1.alloc (.cells #[.string n0, .string ⟨#[]⟩, .bool false, .string ⟨#[]⟩, .string ⟨#[]⟩] 31))) := (Below.refl _ w1).alloc (Nat.le_refl _) _
              have B1 := hide (chain b1 AL1.out)
              have xa := cell_below x0 B1.out
              have ow1 := hide (OW.out.below B1.out)
              have FR : Hid (∀ gg, (Value.slice q (decT ws k).length cp).ownBlock = some gg → gg ≠ w1.heap.size) := fun gg h => by
                have := (OW.out.at_ gg h).2
                have := b1.size
                omega
              have sb := b1.size
              have sw := BW.out.size
              clear b1 AL1 x0
              go_wp2_with fail
              refine (HU2.out _).mono ?_
              rintro e w2 ⟨rfl, b2⟩
              have K2 := hide (K1.out.below b2)
              have ow2 := hide (ow1.out.below b2)
              have B2 := hide (chain B1.out b2)
              have lt2 := K2.out.lt
              have y1 := K2.out.cell 1 rfl
              have f1 := K2.out.free 1
              have K3 : Hid (Bk (w2.setCell ⟨w1.heap.size, 1, none⟩ (.string n1)) w1.heap.size [.string n0, .string n1, .bool false, .string ⟨#[]⟩, .string ⟨#[]⟩] 31) := K2.out.set 1 (.string n1)
              have z0 := K3.out.cell 0 rfl
              have z1 := K3.out.cell 1 rfl
              have z2 := K3.out.cell 2 rfl
              have z3 := K3.out.cell 3 rfl
              have z4 := K3.out.cell 4 rfl
              have B3 : Hid (Below wr.heap.size wr (w2.setCell ⟨w1.heap.size, 1, none⟩ (.string n1))) := B2.out.setCell (p := ⟨w1.heap.size, 1, none⟩) (by show wr.heap.size ≤ w1.heap.size; omega) _
              have ow3 := hide (ow2.out.set FR.out 1 (.string n1))
              have AL : Hid (Below (w2.setCell ⟨w1.heap.size, 1, none⟩ (.string n1)).heap.size (w2.setCell ⟨w1.heap.size, 1, none⟩ (.string n1)) ((w2.setCell ⟨w1.heap.size, 1, none⟩ (.string n1)).alloc (.cells #[.string n0, .string n1, .bool false, .string ⟨#[]⟩, .string ⟨#[]⟩] 31))) := (Below.refl _ _).alloc (Nat.le_refl _) _
              have F1 := hide (files_one (w2.setCell ⟨w1.heap.size, 1, none⟩ (.string n1)) ⟨n0, n1, false, ⟨#[]⟩, ⟨#[]⟩⟩)
              rw [World.size_setCell] at F1
              have B4 := hide (chain B3.out AL.out)
              have ow4 := hide (ow3.out.below AL.out)
              have SZ4 : Hid (wp.heap.size ≤ _) := Nat.le_trans sw B4.out.size
              go_wp2_with (at_builtin; refine wpList_append_en rfl _ _ rfl wp.heap.size _ (decT ws k) rfl ow4.out _ [⟨n0, n1, false, ⟨#[]⟩, ⟨#[]⟩⟩] rfl F1.out (by show ((decT ws k).length + 1) * 72 ≤ _; omega) SZ4.out ?_; intro q8 c8 w8 o8 b8)
              have O8 : Hid (OwnR wp.heap.size w8 (.slice q8 (decT ws (k + 1)).length c8) (decT ws (k + 1))) := by
                show OwnR _ _ _ _
                rw [TK.out, eD.out, List.length_append]
                exact o8
              have B8 : Hid (Below wp.heap.size wp w8) := (chain BW.out B4.out).trans b8
              have LN : Hid ((decT ws k).length + 1 = (decT ws (k + 1)).length) := by show _ = _; rw [TK.out, List.length_append]; rfl
              go_roundw
              case rel => exact ⟨k + 1, q8, c8, by omega, by go_num, by rw [← LN.out], O8, B8⟩
              case measure => simp [intOf]; omega
            · have q1 : ((t[j].toNat : Int) != 61) = true := by rw [ta, bne_iff_ne]; intro h; exact eq (byte_eq (b := 61) h)
              have q2 : ((t[j].toNat : Int) == 61) = false := by rw [ta, beq_eq_false_iff_ne]; intro h; exact eq (byte_eq (b := 61) h)
              have HN' : Hid (∀ i (h : i < p.length), i < j + 1 → p[i] ≠ 61) := fun i h hi => by
                by_cases e : i = j
                · subst e; exact eq
                · exact HN.out i h (by omega)
              clear ta eq FE HN TA TT TD TZ TX jp eD TK OW BW
              go_wp2_with fail
              go_round
              case rel => exact ⟨j + 1, by omega, by go_num, HN'⟩
              case measure => simp [intOf]; omega
          · obtain rfl : j = t.size := by omega
            obtain ⟨f1, f2⟩ := FE.out t.size (by have := TZ.out; omega) HN.out (.inl (by have := TZ.out; omega))
            have f3 : List.drop (t.size + 1) p = [] := List.drop_of_length_le (by have := TZ.out; omega)
            have f4 : List.take t.size p = p := List.take_of_length_le (by have := TZ.out; omega)
            rw [f1, f2, f3, f4] at eD
            have HU := hide (fun W => refUnform_any t W (by omega))
            rw [TX.out] at HU
            have eN : Hid (txt (unf ([] : List UInt8)) = ⟨#[]⟩) := rfl
            rw [eN.out] at eD
            clear f1 f2 f3 f4 FE HN TA TT TD TZ TX eN
            generalize txt (unf p) = n0 at *
            have jz : (t.size : Int) ≤ (t.size : Int) := by omega
            go_wp2_with fail
            refine (HU.out _).mono ?_
            rintro e w1 ⟨rfl, b1⟩
            have K1 := hide (Bk.new w1 [.string n0, .string ⟨#[]⟩, .bool false, .string ⟨#[]⟩, .string ⟨#[]⟩] 31)
            have AL1 : Hid (Below w1.heap.size w1 (w1.alloc (.cells #[.string n0, .string ⟨#[]⟩, .bool false, .string ⟨#[]⟩, .string ⟨#[]⟩] 31))) := (Below.refl _ w1).alloc (Nat.le_refl _) _
            have B1 := hide (chain b1 AL1.out)
            have xa := cell_below x0 B1.out
            have ow1 := hide (OW.out.below B1.out)
            have FR : Hid (∀ gg, (Value.slice q (decT ws k).length cp).ownBlock = some gg → gg ≠ w1.heap.size) := fun gg h => by
              have := (OW.out.at_ gg h).2
              have := b1.size
              omega
            have sb := b1.size
            have sw := BW.out.size
            clear b1 AL1 x0
            have z0 := K1.out.cell 0 rfl
            have z1 := K1.out.cell 1 rfl
            have z2 := K1.out.cell 2 rfl
            have z3 := K1.out.cell 3 rfl
            have z4 := K1.out.cell 4 rfl
            have B3 := hide B1.out
            have ow3 := hide ow1.out
            have AL : Hid (Below (w1.alloc (.cells #[.string n0, .string ⟨#[]⟩, .bool false, .string ⟨#[]⟩, .string ⟨#[]⟩] 31)).heap.size (w1.alloc (.cells #[.string n0, .string ⟨#[]⟩, .bool false, .string ⟨#[]⟩, .string ⟨#[]⟩] 31)) ((w1.alloc (.cells #[.string n0, .string ⟨#[]⟩, .bool false, .string ⟨#[]⟩, .string ⟨#[]⟩] 31)).alloc (.cells #[.string n0, .string ⟨#[]⟩, .bool false, .string ⟨#[]⟩, .string ⟨#[]⟩] 31))) := (Below.refl _ _).alloc (Nat.le_refl _) _
            have F1 := hide (files_one (w1.alloc (.cells #[.string n0, .string ⟨#[]⟩, .bool false, .string ⟨#[]⟩, .string ⟨#[]⟩] 31)) ⟨n0, ⟨#[]⟩, false, ⟨#[]⟩, ⟨#[]⟩⟩)
            rw [World.size_alloc] at F1
            have B4 := hide (chain B3.out AL.out)
            have ow4 := hide (ow3.out.below AL.out)
            have SZ4 : Hid (wp.heap.size ≤ _) := Nat.le_trans sw B4.out.size
            go_wp2_with (at_builtin; refine wpList_append_en rfl _ _ rfl wp.heap.size _ (decT ws k) rfl ow4.out _ [⟨n0, ⟨#[]⟩, false, ⟨#[]⟩, ⟨#[]⟩⟩] rfl F1.out (by show ((decT ws k).length + 1) * 72 ≤ _; omega) SZ4.out ?_; intro q8 c8 w8 o8 b8)
            have O8 : Hid (OwnR wp.heap.size w8 (.slice q8 (decT ws (k + 1)).length c8) (decT ws (k + 1))) := by
              show OwnR _ _ _ _
              rw [TK.out, eD.out, List.length_append]
              exact o8
            have B8 : Hid (Below wp.heap.size wp w8) := (chain BW.out B4.out).trans b8
            have LN : Hid ((decT ws k).length + 1 = (decT ws (k + 1)).length) := by show _ = _; rw [TK.out, List.length_append]; rfl
            go_roundw
            case rel => exact ⟨k + 1, q8, c8, by omega, by go_num, by rw [← LN.out], O8, B8⟩
            case measure => simp [intOf]; omega
    · obtain rfl : k = ws.length := by omega
      rw [EE.out] at OW
      rw [EE.out]
      clear RW SZ EE
      go_wp2_with fail
      go_ret
      exact ⟨_, rfl, OwnR.mono OW.out BP.out.size, chain BP.out BW.out⟩
end Go.Proofs.YtfedeiipinamjaaDoor

namespace Go.Proofs.YtfedeiipinamjaaDoor
open Go.RowKit
set_option maxRecDepth 100000
set_option maxHeartbeats 8000000 in
theorem urlencDecodes_walk (s : ByteArray) (w : World) (hz : s.size ≤ maxLen) (hT : UrTabs w) :
    Calls Tryd.prog 4 #[.string s] w fun e w' => e = .returned (.bool true) ∧ Below w.heap.size w w' := by
  have HW := hide (urWakes_any w hT)
  have hz' : s.size ≤ 9223372036854775807 := hz
  by_cases h : 8192 < s.size
  · have d : decide (8192 < (s.size : Int)) = true := decide_eq_true (by omega)
    clear hT hz h
    go_enter Tryd.func4, Tryd.ntmps4
    go_wp2_with fail
    refine HW.out.mono ?_
    rintro e w1 ⟨rfl, b1⟩
    go_wp2_with fail
    go_ret
    exact ⟨rfl, b1⟩
  · have d : decide (8192 < (s.size : Int)) = false := decide_eq_false (by omega)
    have HD := hide (fun W (hb : Below w.heap.size w W) => urDecode_any s W (by omega) (hT.below hb))
    have HR := hide (fun W => refDecode19_any s W (by omega))
    have LN : Hid ((decU s.data.toList).length ≤ 4398046511104) := by
      show _ ≤ _
      unfold decU
      rw [List.length_map]
      have h1 := List.length_filter_le someB (splitL 38 s.data.toList)
      have h2 := split_count 38 s.data.toList
      have h3 : s.data.toList.length = s.size := by simp
      omega
    have HSm := hide (fun a b W (ha : FilesV W a (decU s.data.toList)) (hb : FilesV W b (decU s.data.toList)) => refSameFiles_yes a b _ W ha hb LN.out)
    clear hT hz h LN
    generalize decU s.data.toList = pl at *
    go_enter Tryd.func4, Tryd.ntmps4
    go_wp2_with fail
    refine HW.out.mono ?_
    rintro e w1 ⟨rfl, b1⟩
    go_wp2_with fail
    refine (HD.out _ b1).mono ?_
    rintro e w2 ⟨v2, rfl, f2, b2⟩
    have F2 := hide f2
    obtain ⟨p2, c2, rfl⟩ := files_formU f2
    go_wp2_with fail
    refine (HR.out _).mono ?_
    rintro e w3 ⟨v3, rfl, f3, b3⟩
    have F3 := hide f3.files
    replace F2 := hide (F2.out.below b3)
    obtain ⟨p3, c3, rfl⟩ := files_formU F3.out
    clear f2 f3
    go_wp2_with fail
    refine (HSm.out _ _ _ F2.out F3.out).mono ?_
    rintro e w4 ⟨rfl, b4⟩
    go_wp2_with fail
    go_ret
    exact ⟨rfl, chain (chain (chain b1 b2) b3) b4⟩

end Go.Proofs.YtfedeiipinamjaaDoor
