/- strings.ContainsRune of a text of ASCII, at every rune. Condition: the text has 4 to 100 bytes, all below 128. -/
import Derived.Shelf.Small.Strs
import Derived.Shelf.Strings.Runes
import Derived.BigQuiet
import Derived.Deep.QuietTactic
import Derived.Laws.Runes
import Derived.WalkSmall
import Derived.WalkMore
import Derived.Test.YtncljgpcloanfaaDoorProg
import Derived.Test.YtncljgpcloanfaaDoorUnits
namespace Go.Proofs.YtncljgpcloanfaaDoor
open Go.Shelf Go.RowKit

def crren : Go.Shelf.Ren := ⟨fun | 119 => 75 | 137 => 74 | 151 => 70 | 152 => 73 | 217 => 78 | 224 => 76 | 225 => 77 | 266 => 79 | n => n, fun | 0 => 0 | 3 => 3 | 4 => 4 | 5 => 5 | 9 => 9 | 21 => 21 | 46 => 47 | n => n, fun  | n => n⟩
theorem lays151 : Go.Proofs.Lays.n151 Tryd.prog crren := {
  mixed := by kernel_rfl
  f119 := Tryd.func75.trans (congrArg some (by kernel_rfl))
  f137 := Tryd.func74.trans (congrArg some (by kernel_rfl))
  f151 := Tryd.func70.trans (congrArg some (by kernel_rfl))
  f152 := Tryd.func73.trans (congrArg some (by kernel_rfl))
  f217 := Tryd.func78.trans (congrArg some (by kernel_rfl))
  f224 := Tryd.func76.trans (congrArg some (by kernel_rfl))
  f225 := Tryd.func77.trans (congrArg some (by kernel_rfl))
  f266 := Tryd.func79.trans (congrArg some (by kernel_rfl))
  t0 := Tryd.underlying0
  a0 := Tryd.isAgg0
  z0 := Tryd.sizeOf0
  v0 := Tryd.zeroValue0
  t3 := Tryd.underlying3
  a3 := Tryd.isAgg3
  z3 := Tryd.sizeOf3
  v3 := Tryd.zeroValue3
  t4 := Tryd.underlying4
  a4 := Tryd.isAgg4
  z4 := Tryd.sizeOf4
  v4 := Tryd.zeroValue4
  t5 := Tryd.underlying5
  a5 := Tryd.isAgg5
  z5 := Tryd.sizeOf5
  v5 := Tryd.zeroValue5
  t9 := Tryd.underlying9
  a9 := Tryd.isAgg9
  z9 := Tryd.sizeOf9
  v9 := Tryd.zeroValue9
  t21 := Tryd.underlying21
  a21 := Tryd.isAgg21
  z21 := Tryd.sizeOf21
  v21 := Tryd.zeroValue21
  t46 := Tryd.underlying47
  a46 := Tryd.isAgg47
  z46 := Tryd.sizeOf47
  v46 := Tryd.zeroValue47 }
theorem lays137 : Go.Proofs.Lays.n137 Tryd.prog crren := {
  mixed := by kernel_rfl
  f137 := Tryd.func74.trans (congrArg some (by kernel_rfl))
  f217 := Tryd.func78.trans (congrArg some (by kernel_rfl))
  f266 := Tryd.func79.trans (congrArg some (by kernel_rfl))
  t3 := Tryd.underlying3
  a3 := Tryd.isAgg3
  z3 := Tryd.sizeOf3
  v3 := Tryd.zeroValue3
  t5 := Tryd.underlying5
  a5 := Tryd.isAgg5
  z5 := Tryd.sizeOf5
  v5 := Tryd.zeroValue5
  t9 := Tryd.underlying9
  a9 := Tryd.isAgg9
  z9 := Tryd.sizeOf9
  v9 := Tryd.zeroValue9 }
/-- Does a rune stand in a text of ASCII? -/
def inZ (s : ByteArray) (r : Int) : Bool := s.data.toList.any fun b => ((b.toNat : Int) == r)
structure Asc (s : ByteArray) : Prop where
  lo : 4 ≤ s.size
  hi : s.size ≤ 100
  low : ∀ b ∈ s.data.toList, b.toNat < 128
theorem indexByte_ge (c : UInt8) : ∀ l : List UInt8, -1 ≤ Lib.indexByte l c
  | [] => Int.le_refl _
  | x :: t => by
    have := indexByte_ge c t
    unfold Lib.indexByte
    split
    · omega
    · split
      · omega
      · omega
theorem indexByte_at (c : UInt8) : ∀ l : List UInt8, 0 ≤ Lib.indexByte l c ↔ c ∈ l
  | [] => by constructor <;> intro h <;> cases h
  | x :: t => by
    have ih := indexByte_at c t
    have hg := indexByte_ge c t
    unfold Lib.indexByte
    by_cases h : x = c
    · simp [h]
    · have hc : ¬ c = x := fun e => h e.symm
      have hb : ¬ (x == c) = true := by simpa using h
      rw [if_neg hb, List.mem_cons, ← ih]
      by_cases g : Lib.indexByte t c = -1
      · simp [g, hc]
      · have gb : ¬ (Lib.indexByte t c == -1) = true := by simpa using g
        rw [if_neg gb]
        constructor
        · intro _; right; omega
        · intro _; omega
theorem inZ_high {s : ByteArray} (h : Asc s) {r : Int} (hr : r < 0 ∨ 128 ≤ r) : inZ s r = false := by
  unfold inZ
  rw [List.any_eq_false]
  intro b hb
  have := h.low b hb
  simp; omega
theorem lay_ascii (s : ByteArray) (r : Int) (w : World) (h0 : 0 ≤ r) (h1 : r < 128) :
    Calls Tryd.prog 70 #[.string s, .int .i32 r] w fun e w' => e = .returned (.bool (inZ s r)) ∧ Below w.heap.size w w' := by
  refine (Any.strings_ContainsRune_ascii lays151 s r w h0 h1).mono ?_
  rintro e w1 ⟨rfl, rfl⟩
  refine ⟨ret_bool ?_, Below.refl _ _⟩
  unfold inZ
  rw [Bool.eq_iff_iff, decide_eq_true_eq, indexByte_at, List.any_eq_true]
  constructor
  · intro h
    exact ⟨_, h, by simp; omega⟩
  · rintro ⟨b, hb, e⟩
    have : r.toNat.toUInt8 = b := by
      have e : (b.toNat : Int) = r := by simpa using e
      rw [← e]; simp
    rw [this]; exact hb
theorem indexByte_none (s : ByteArray) (c : UInt8) (w : World) (h : ¬ c ∈ s.data.toList) :
    Calls Tryd.prog 74 #[.string s, .int .u8 (c.toNat : Int)] w fun e w' => e = .returned (.int .i64 (-1)) ∧ w' = w := by
  have := Any.strings_IndexByte lays137 s (c.toNat : Int) w
  rw [show ((c.toNat : Int)).toNat.toUInt8 = c by simp] at this
  refine this.mono ?_
  rintro e w1 ⟨rfl, rfl⟩
  refine ⟨ret_int ?_, rfl⟩
  have e := indexByte_at c s.data.toList
  have := indexByte_ge c s.data.toList
  have : ¬ 0 ≤ Lib.indexByte s.data.toList c := fun g => h (e.1 g)
  omega
def runeB (r : Int) : Bool := decide ((0 ≤ r ∧ r < 55296) ∨ (57343 < r ∧ r ≤ 1114111))
theorem runeB_yes {r : Int} (h : (0 ≤ r ∧ r < 55296) ∨ (57343 < r ∧ r ≤ 1114111)) : runeB r = true := decide_eq_true h
theorem runeB_no {r : Int} (h : ¬ ((0 ≤ r ∧ r < 55296) ∨ (57343 < r ∧ r ≤ 1114111))) : runeB r = false := decide_eq_false h
set_option maxHeartbeats 1000000 in
theorem validRune_any (r : Int) (w : World) :
    Calls Tryd.prog 75 #[.int .i32 r] w fun e w' => e = .returned (.bool (runeB r)) ∧ w' = w := by
  by_cases h1 : 0 ≤ r
  · by_cases h2 : r < 55296
    · go_enter Tryd.func75, Tryd.ntmps75
      go_wp2_with fail
      go_ret
      exact ⟨ret_bool (runeB_yes (by omega)).symm, rfl⟩
    · by_cases h3 : 57343 < r
      · by_cases h4 : r ≤ 1114111
        · go_enter Tryd.func75, Tryd.ntmps75
          go_wp2_with fail
          go_ret
          exact ⟨ret_bool (runeB_yes (by omega)).symm, rfl⟩
        · go_enter Tryd.func75, Tryd.ntmps75
          go_wp2_with fail
          go_ret
          exact ⟨ret_bool (runeB_no (by omega)).symm, rfl⟩
      · go_enter Tryd.func75, Tryd.ntmps75
        go_wp2_with fail
        go_ret
        exact ⟨ret_bool (runeB_no (by omega)).symm, rfl⟩
  · have h3 : ¬ 57343 < r := by omega
    go_enter Tryd.func75, Tryd.ntmps75
    go_wp2_with fail
    go_ret
    exact ⟨ret_bool (runeB_no (by omega)).symm, rfl⟩
/-- The last byte of a rune's text that is none of ASCII. -/
theorem enc_last {r : Int} (h : (128 ≤ r ∧ r < 55296) ∨ (57343 < r ∧ r ≤ 1114111)) : 2 ≤ (Utf8.encode r).size ∧ (Utf8.encode r).size ≤ 4 ∧ ∃ (hl : (Utf8.encode r).size - 1 < (Utf8.encode r).size), 128 ≤ ((Utf8.encode r)[(Utf8.encode r).size - 1]).toNat := by
  have hv : Utf8.valid r = true := by unfold Utf8.valid; simp; omega
  obtain ⟨n, rfl⟩ : ∃ n : Nat, r = (n : Int) := ⟨r.toNat, by omega⟩
  have h128 : ¬ n < 128 := by omega
  have hn : n ≤ 1114111 := by omega
  have hm : n % 64 < 64 := Nat.mod_lt _ (by decide)
  have E : Utf8.encode (n : Int) = if n < 2048 then ⟨#[UInt8.ofNat (192 + n / 64), UInt8.ofNat (128 + n % 64)]⟩ else if n < 65536 then ⟨#[UInt8.ofNat (224 + n / 4096), UInt8.ofNat (128 + n / 64 % 64), UInt8.ofNat (128 + n % 64)]⟩ else ⟨#[UInt8.ofNat (240 + n / 262144), UInt8.ofNat (128 + n / 4096 % 64), UInt8.ofNat (128 + n / 64 % 64), UInt8.ofNat (128 + n % 64)]⟩ := by
    unfold Utf8.encode
    rw [if_pos hv]
    simp only [Int.toNat_natCast]
    rw [if_neg h128]
  have B : (UInt8.ofNat (128 + n % 64)).toNat = 128 + n % 64 := by
    rw [UInt8.toNat_ofNat']; omega
  generalize Utf8.encode (n : Int) = t at E ⊢
  split at E
  · subst E
    refine ⟨by show 2 ≤ 2; omega, by show 2 ≤ 4; omega, by show 2 - 1 < 2; omega, ?_⟩
    show 128 ≤ (UInt8.ofNat (128 + n % 64)).toNat
    omega
  · split at E
    · subst E
      refine ⟨by show 2 ≤ 3; omega, by show 3 ≤ 4; omega, by show 3 - 1 < 3; omega, ?_⟩
      show 128 ≤ (UInt8.ofNat (128 + n % 64)).toNat
      omega
    · subst E
      refine ⟨by show 2 ≤ 4; omega, by show 4 ≤ 4; omega, by show 4 - 1 < 4; omega, ?_⟩
      show 128 ≤ (UInt8.ofNat (128 + n % 64)).toNat
      omega

theorem index_any (s : ByteArray) (i : Int) (j : Nat) (h : i = j) (hj : j < s.size) (w : World) : (Instr.index 9 (.string s) (.int .i64 i)).run Tryd.prog w = .ok (.int .u8 (s[j].toNat : Int)) w := by
  subst h
  rw [run_index_string _ _ _ _ _ Tryd.underlying9, dif_pos ⟨by omega, by omega⟩]
  rfl
theorem wrap_id (z : Int) (h0 : -9223372036854775808 ≤ z) (h1 : z ≤ 9223372036854775807) : IntKind.i64.wrap z = z := by
  rw [IntKind.wrap_i64]; omega
theorem exit_in_block {n : Nat} {Q : Exit → Act → World → Prop} {a : Act} {w : World} (h : Q .ret a w) : Exit.inBlock n Q .ret a w := h
theorem not_high {s : ByteArray} (h : Asc s) {c : UInt8} (hc : 128 ≤ c.toNat) (k n : Nat) : ¬ c ∈ (s.extract k n).data.toList := by
  intro hm
  have : c ∈ s.data.toList := by
    have e : (s.extract k n).data.toList = (s.data.toList.drop k).take (n - k) := by simp [List.take_drop]
    rw [e] at hm
    exact List.mem_of_mem_drop (List.mem_of_mem_take hm)
  have := h.low c this
  omega
theorem low_at {s : ByteArray} (h : Asc s) (k : Nat) (hk : k < s.size) : s[k].toNat < 128 := h.low _ (by
  have : s[k] = s.data.toList[k]'(by simpa using hk) := by simp; rfl
  rw [this]; exact List.getElem_mem _)

set_option maxHeartbeats 4000000 in
set_option maxRecDepth 1000000 in
theorem indexRune_neg (s : ByteArray) (r : Int) (w : World) (hr : r < 0) :
    Calls Tryd.prog 73 #[.string s, .int .i32 r] w fun e w' => e = .returned (.int .i64 (-1)) ∧ Below w.heap.size w w' := by
  have e1 : ¬ 0 ≤ r := by omega
  have e2 : (r == 65533) = false := by rw [beq_eq_false_iff_ne]; omega
  have HV := hide (validRune_any r w)
  rw [runeB_no (by omega)] at HV
  go_enter Tryd.func73, Tryd.ntmps73
  go_wp2_with fail
  refine HV.out.mono ?_
  rintro e w1 ⟨rfl, rfl⟩
  go_wp2_with fail
  go_ret
  exact ⟨rfl, Below.refl _ _⟩

set_option maxHeartbeats 4000000 in
set_option maxRecDepth 1000000 in
theorem indexRune_odd (s : ByteArray) (r : Int) (w : World) (hr : 128 ≤ r) (hv : ¬ ((0 ≤ r ∧ r < 55296) ∨ (57343 < r ∧ r ≤ 1114111))) :
    Calls Tryd.prog 73 #[.string s, .int .i32 r] w fun e w' => e = .returned (.int .i64 (-1)) ∧ Below w.heap.size w w' := by
  have e1 : 0 ≤ r := by omega
  have e3 : ¬ r < 128 := by omega
  have e2 : (r == 65533) = false := by rw [beq_eq_false_iff_ne]; omega
  have HV := hide (validRune_any r w)
  rw [runeB_no hv] at HV
  clear hv
  go_enter Tryd.func73, Tryd.ntmps73
  go_wp2_with fail
  refine HV.out.mono ?_
  rintro e w1 ⟨rfl, rfl⟩
  go_wp2_with fail
  go_ret
  exact ⟨rfl, Below.refl _ _⟩
set_option maxHeartbeats 4000000 in
set_option maxRecDepth 1000000 in
theorem indexRune_high (s : ByteArray) (r : Int) (w : World) (hs : Asc s) (hr : 128 ≤ r) (hv : (0 ≤ r ∧ r < 55296) ∨ (57343 < r ∧ r ≤ 1114111)) (h5 : r ≠ 65533) :
    Calls Tryd.prog 73 #[.string s, .int .i32 r] w fun e w' => e = .returned (.int .i64 (-1)) ∧ Below w.heap.size w w' := by
  have e1 : 0 ≤ r := by omega
  have e3 : ¬ r < 128 := by omega
  have e2 : (r == 65533) = false := by rw [beq_eq_false_iff_ne]; omega
  have HV := hide (validRune_any r w)
  rw [runeB_yes hv] at HV
  have lo := hs.lo
  have hi := hs.hi
  have i4 : (s.size : Int) ≤ 100 := by omega
  have i5 : (4 : Int) ≤ (s.size : Int) := by omega
  have K : ∃ n : Nat, 2 ≤ n ∧ n ≤ 4 ∧ (Utf8.encode r).size = n ∧ ∃ (sb : Nat) (tb : UInt8), sb < 128 ∧ 128 ≤ tb.toNat ∧ (∀ w, (Instr.index 9 (.string s) (.int .i64 ((n : Int) - 1))).run Tryd.prog w = .ok (.int .u8 (sb : Int)) w) ∧ (∀ w, (Instr.index 9 (.string (Utf8.encode r)) (.int .i64 ((n : Int) - 1))).run Tryd.prog w = .ok (.int .u8 (tb.toNat : Int)) w) := by
    obtain ⟨s2, s4, hl, hb⟩ := enc_last (r := r) (by omega)
    exact ⟨_, s2, s4, rfl, _, _, low_at hs ((Utf8.encode r).size - 1) (by omega), hb, fun w => index_any s _ _ (by omega) (by omega) w, fun w => index_any _ _ _ (by omega) hl w⟩
  obtain ⟨n, n2, n4, hsz, sb, tb, lk, hb, x1, x2⟩ := K
  have NE : ((sb : Int) != (tb.toNat : Int)) = true := by rw [bne_iff_ne]; omega
  have HI := hide (fun k w => indexByte_none (s.extract k s.size) tb w (not_high hs hb _ _))
  have j1 : (2 : Int) ≤ (n : Int) := by omega
  have j2 : (n : Int) ≤ 4 := by omega
  clear hv hs hb lk n2 n4
  obtain ⟨z, hz⟩ : ∃ z : Int, z = (n : Int) := ⟨_, rfl⟩
  rw [← hz] at x1 x2 j1 j2
  have wz : IntKind.i64.wrap z = z := wrap_id z (by omega) (by omega)
  have z0 : 0 ≤ z := by omega
  have z1 : z ≤ (s.size : Int) := by omega
  replace hsz : ((Utf8.encode r).size : Int) = z := by rw [hsz, hz]
  clear hz
  go_enter Tryd.func73, Tryd.ntmps73
  go_wp2_with fail
  refine HV.out.mono ?_
  rintro e w1 ⟨rfl, rfl⟩
  clear HV
  go_wp2_with fail
  go_step3
  go_wp2_with fail
  go_loop [9, 10] (fun i _ => i = .int .i64 (z - 1)) (fun _ _ => 0)
  case atStart => rfl
  case round =>
    subst hrel
    go_wp2_with fail
    go_step3
    go_wp2_with fail
    go_quiet (fail)
    have HB := hide (below_drewN (Below.refl w1.heap.size w1) nq)
    generalize w1.drewN nq = wr at *
    go_wp2_with fail
    go_quiet ((go_at_call 74; exact Calls.quiet_of_same (HI.out _ _)))
    go_wp2_with fail
    rw [Exit.noGoto_ret]
    refine exit_in_block ?_
    refine (?_ : bodyPost Tryd.prog Tryd.f73 (fun e w' => e = .returned (.int .i64 (-1)) ∧ Below w1.heap.size w1 w') Exit.ret _ _)
    go_ret
    exact ⟨rfl, below_drewN HB.out _⟩

theorem decode_low {s : ByteArray} (h : Asc s) (k : Nat) (hk : k < s.size) : (Utf8.decode s k).1 < 128 ∧ (Utf8.decode s k).2 = 1 := by
  have h1 : bn s k < 128 := by
    have := low_at h k hk
    have e := bn_at s k hk
    omega
  rw [decode_bn]
  unfold Lib.decodeN
  simp [h1]
set_option maxHeartbeats 4000000 in
set_option maxRecDepth 1000000 in
theorem indexRune_fffd (s : ByteArray) (w : World) (hs : Asc s) :
    Calls Tryd.prog 73 #[.string s, .int .i32 65533] w fun e w' => e = .returned (.int .i64 (-1)) ∧ Below w.heap.size w w' := by
  have hi := hs.hi
  go_enter Tryd.func73, Tryd.ntmps73
  go_wp2_with fail
  go_loopw [] (fun w' => ∃ pos : Nat, w' = w.iter s pos ∧ pos ≤ s.size) (fun w' => s.size - w'.iterPos w.heap.size)
  case atStart => exact ⟨0, rfl, Nat.zero_le _⟩
  case round =>
    obtain ⟨pos, rfl, hps⟩ := hrel
    by_cases hp : pos < s.size
    · have hnx : ∀ ty, (Instr.next (.pointer (some ⟨w.heap.size, 0, none⟩)) true ty).run Tryd.prog (w.iter s pos) = _ := fun ty => run_next_any w s pos ty hp
      obtain ⟨d1, d2⟩ := decode_low hs pos hp
      rw [d2] at hnx
      have ne : (((Utf8.decode s pos).1 : Int) == 65533) = false := by rw [beq_eq_false_iff_ne]; omega
      clear hs d1 d2
      generalize (Utf8.decode s pos).1 = x at *
      go_wp2_with fail
      go_roundw
      case rel => exact ⟨pos + 1, rfl, hp⟩
      case measure => simp; omega
    · have hnx : ∀ ty, (Instr.next (.pointer (some ⟨w.heap.size, 0, none⟩)) true ty).run Tryd.prog (w.iter s pos) = _ := fun ty => run_next_end w s pos ty hp
      go_wp2_with fail
      go_ret
      exact ⟨rfl, (Below.refl _ w).alloc (Nat.le_refl _) _⟩
set_option maxHeartbeats 1000000 in
theorem containsRune_any (s : ByteArray) (r : Int) (w : World) (hs : Asc s) :
    Calls Tryd.prog 70 #[.string s, .int .i32 r] w fun e w' => e = .returned (.bool (inZ s r)) ∧ Below w.heap.size w w' := by
  by_cases h0 : 0 ≤ r ∧ r < 128
  · exact lay_ascii s r w h0.1 h0.2
  · have E := hide (inZ_high hs (r := r) (by omega))
    have HI : Hid (Calls Tryd.prog 73 #[.string s, .int .i32 r] w fun e w' => e = .returned (.int .i64 (-1)) ∧ Below w.heap.size w w') := by
      by_cases h1 : r < 0
      · exact indexRune_neg s r w h1
      · by_cases h2 : r = 65533
        · subst h2; exact indexRune_fffd s w hs
        · by_cases h3 : (0 ≤ r ∧ r < 55296) ∨ (57343 < r ∧ r ≤ 1114111)
          · exact indexRune_high s r w hs (by omega) h3 h2
          · exact indexRune_odd s r w (by omega) h3
    clear h0 hs
    rw [E.out]
    go_enter Tryd.func70, Tryd.ntmps70
    go_wp2_with fail
    refine HI.out.mono ?_
    rintro e w1 ⟨rfl, b1⟩
    go_wp2_with fail
    go_ret
    exact ⟨rfl, b1⟩
set_option maxHeartbeats 1000000 in
theorem isOneOf_any (s : ByteArray) (r : Int) (w : World) (hs : Asc s) :
    Calls Tryd.prog 65 #[.string s, .int .i32 r] w fun e w' => e = .returned (.bool (inZ s r)) ∧ Below w.heap.size w w' := by
  have HI := hide (containsRune_any s r w hs)
  clear hs
  generalize inZ s r = b at *
  go_enter Tryd.func65, Tryd.ntmps65
  go_wp2_with fail
  refine HI.out.mono ?_
  rintro e w1 ⟨rfl, b1⟩
  go_wp2_with fail
  go_ret
  exact ⟨rfl, b1⟩

end Go.Proofs.YtncljgpcloanfaaDoor
