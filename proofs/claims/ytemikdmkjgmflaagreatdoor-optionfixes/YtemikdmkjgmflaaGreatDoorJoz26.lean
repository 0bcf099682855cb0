/- The document's Attr, SameFiles, Same of layer 14. The program's Strip and the document's answer by the same function of lists of bytes. The program's Collapse answers by a function of lists of bytes. The document's Words and Collapse answer by functions of lists of bytes. -/
import Derived.Test.YtemikdmkjgmflaaGreatDoorJoz15
import Derived.Test.YtemikdmkjgmflaaGreatDoorJoz27
import Derived.Test.YtemikdmkjgmflaaGreatDoorJoz28
import Derived.Shelf.Strings.SlTrimAscii
import Derived.Shelf.Small.Strs

namespace Go.Proofs.YtemikdmkjgmflaaGreatDoor
open Go.RowKit
set_option maxRecDepth 100000
theorem ret_fndA {a b : ByteArray} {c d : Bool} (h : a = b) (g : c = d) : Ending.returned (.tuple #[.string a, .bool c]) = .returned (.tuple #[.string b, .bool d]) := by rw [h, g]
set_option maxHeartbeats 4000000 in
set_option maxRecDepth 100000 in
theorem refAttrS_any (v : Value) (ax : List (ByteArray × ByteArray)) (name : ByteArray) (w : World) (hv : AttrsV w v ax) (hl : ax.length ≤ 4398046511104) :
    Calls Tryz.prog 37 #[v, .string name] w fun e w' => e = .returned (.tuple #[.string (fndS ax name), .bool (findA ax name).isSome]) ∧ w' = w := by
  have HF := hide (refFind_any v ax name w hv hl)
  obtain ⟨p, c, rfl, hv⟩ := hv
  cases hf : findA ax name with
  | none =>
    have E := hide (fnd_miss hf)
    rw [hf, show findV none = -1 from rfl] at HF
    clear hf hv hl
    go_enter Tryz.func37, Tryz.ntmps37
    go_wp2_with fail
    refine HF.out.mono ?_
    rintro e u ⟨rfl, hu⟩
    obtain rfl : w = u := hu.symm
    go_wp2_with fail
    go_ret2
    exact ⟨ret_fndA E.out.1.symm rfl, rfl⟩
  | some i =>
    obtain ⟨hi, _, _⟩ := List.findIdx?_eq_some_iff_getElem.1 (show ax.findIdx? (isN name) = some i from hf)
    have E := hide (fnd_hit hi hf)
    rw [hf, show findV (some i) = (i : Int) from rfl] at HF
    obtain ⟨b, o, rfl, hv2⟩ : ∃ b o, p = some ⟨b, o, none⟩ ∧ ∀ i (h : i < ax.length), w.cell? ⟨b, o + i * 2, none⟩ = some (.string ax[i].1) ∧ w.cell? ⟨b, o + i * 2 + 1, none⟩ = some (.string ax[i].2) := by
      rcases hv with t | t
      · rw [t] at hi; simp at hi
      · exact t
    have c1 := (hv2 i hi).2
    have i0 : (0 : Int) ≤ (i : Int) := by omega
    have i1 : (i : Int) < (ax.length : Int) := by omega
    have i2 : ¬ (i : Int) < 0 := by omega
    generalize ax[i].2 = t at *
    clear hf hv hv2 hl
    go_enter Tryz.func37, Tryz.ntmps37
    go_wp2_with fail
    refine HF.out.mono ?_
    rintro e u ⟨rfl, hu⟩
    obtain rfl : w = u := hu.symm
    go_wp2_with fail
    go_ret2
    exact ⟨ret_fndA E.out.1.symm rfl, rfl⟩
end Go.Proofs.YtemikdmkjgmflaaGreatDoor

namespace Go.Proofs.YtemikdmkjgmflaaGreatDoor
open Go.Shelf Go.RowKit
set_option maxRecDepth 100000
def sren : Go.Shelf.Ren := ⟨fun | 119 => 122 | 120 => 121 | 137 => 102 | 151 => 116 | 152 => 120 | 160 => 101 | 197 => 115 | 217 => 112 | 224 => 123 | 225 => 124 | 227 => 107 | 228 => 114 | 231 => 105 | 232 => 106 | 233 => 108 | 234 => 109 | 235 => 110 | 236 => 111 | 260 => 119 | 266 => 118 | 271 => 117 | n => n, fun | 0 => 0 | 3 => 3 | 4 => 4 | 5 => 5 | 9 => 9 | 21 => 21 | 46 => 128 | 72 => 97 | 105 => 123 | 116 => 116 | 117 => 117 | 119 => 127 | 124 => 120 | 138 => 130 | 139 => 131 | n => n, fun | 3 => 3 | 4 => 4 | n => n⟩
theorem lays160 : Go.Proofs.Lays.n160 Tryz.prog sren := {
  mixed := by kernel_rfl
  f119 := Tryz.func122.trans (congrArg some (by kernel_rfl))
  f120 := Tryz.func121.trans (congrArg some (by kernel_rfl))
  f137 := Tryz.func102.trans (congrArg some (by kernel_rfl))
  f151 := Tryz.func116.trans (congrArg some (by kernel_rfl))
  f152 := Tryz.func120.trans (congrArg some (by kernel_rfl))
  f160 := Tryz.func101.trans (congrArg some (by kernel_rfl))
  f197 := Tryz.func115.trans (congrArg some (by kernel_rfl))
  f217 := Tryz.func112.trans (congrArg some (by kernel_rfl))
  f224 := Tryz.func123.trans (congrArg some (by kernel_rfl))
  f225 := Tryz.func124.trans (congrArg some (by kernel_rfl))
  f227 := Tryz.func107.trans (congrArg some (by kernel_rfl))
  f228 := Tryz.func114.trans (congrArg some (by kernel_rfl))
  f231 := Tryz.func105.trans (congrArg some (by kernel_rfl))
  f232 := Tryz.func106.trans (congrArg some (by kernel_rfl))
  f233 := Tryz.func108.trans (congrArg some (by kernel_rfl))
  f234 := Tryz.func109.trans (congrArg some (by kernel_rfl))
  f235 := Tryz.func110.trans (congrArg some (by kernel_rfl))
  f236 := Tryz.func111.trans (congrArg some (by kernel_rfl))
  f260 := Tryz.func119.trans (congrArg some (by kernel_rfl))
  f266 := Tryz.func118.trans (congrArg some (by kernel_rfl))
  f271 := Tryz.func117.trans (congrArg some (by kernel_rfl))
  t0 := Tryz.underlying0
  a0 := Tryz.isAgg0
  z0 := Tryz.sizeOf0
  v0 := Tryz.zeroValue0
  t3 := Tryz.underlying3
  a3 := Tryz.isAgg3
  z3 := Tryz.sizeOf3
  v3 := Tryz.zeroValue3
  t4 := Tryz.underlying4
  a4 := Tryz.isAgg4
  z4 := Tryz.sizeOf4
  v4 := Tryz.zeroValue4
  t5 := Tryz.underlying5
  a5 := Tryz.isAgg5
  z5 := Tryz.sizeOf5
  v5 := Tryz.zeroValue5
  t9 := Tryz.underlying9
  a9 := Tryz.isAgg9
  z9 := Tryz.sizeOf9
  v9 := Tryz.zeroValue9
  t21 := Tryz.underlying21
  a21 := Tryz.isAgg21
  z21 := Tryz.sizeOf21
  v21 := Tryz.zeroValue21
  t46 := Tryz.underlying128
  a46 := Tryz.isAgg128
  z46 := Tryz.sizeOf128
  v46 := Tryz.zeroValue128
  t105 := Tryz.underlying123
  a105 := Tryz.isAgg123
  z105 := Tryz.sizeOf123
  v105 := Tryz.zeroValue123
  t116 := Tryz.underlying116
  a116 := Tryz.isAgg116
  z116 := Tryz.sizeOf116
  t117 := Tryz.underlying117
  a117 := Tryz.isAgg117
  z117 := Tryz.sizeOf117
  v117 := Tryz.zeroValue117
  t119 := Tryz.underlying127
  a119 := Tryz.isAgg127
  z119 := Tryz.sizeOf127
  t124 := Tryz.underlying120
  a124 := Tryz.isAgg120
  z124 := Tryz.sizeOf120
  v124 := Tryz.zeroValue120
  t138 := Tryz.underlying130
  a138 := Tryz.isAgg130
  z138 := Tryz.sizeOf130
  v138 := Tryz.zeroValue130
  t139 := Tryz.underlying131
  a139 := Tryz.isAgg131
  z139 := Tryz.sizeOf131
  v139 := Tryz.zeroValue131
  g3 := by kernel_rfl
  g4 := by kernel_rfl }
theorem blanks_ascii : ∀ (j : Nat) b, (⟨#[9, 10, 12, 13, 32]⟩ : ByteArray).data.toList[j]? = some b → b.toNat < 128 := ascii_of_all (by decide)
theorem trim_any (s : ByteArray) (w : World) (hs : s.size ≤ 281474976710656) :
    Calls Tryz.prog 101 #[.string s, .string ⟨#[9, 10, 12, 13, 32]⟩] w fun e w' => e = .returned (.string (stripS s)) ∧ Below w.heap.size w w' :=
  Any.strings_Trim_laid lays160 (by kernel_rfl) s ⟨#[9, 10, 12, 13, 32]⟩ w (by omega) (by decide) blanks_ascii
set_option maxHeartbeats 400000 in
theorem strip_any (s : ByteArray) (w : World) (hs : s.size ≤ 281474976710656) :
    Calls Tryz.prog 87 #[.string s] w fun e w' => e = .returned (.string (stripS s)) ∧ Below w.heap.size w w' := by
  have hz := stripS_size s
  go_enter Tryz.func87, Tryz.ntmps87
  go_wp2_with fail
  refine (trim_any s _ hs).mono ?_
  rintro e w1 ⟨rfl, b1⟩
  go_wp2_with fail
  refine (clone_any _ _ (Nat.le_trans hz hs)).mono ?_
  rintro e w2 ⟨rfl, b2⟩
  go_wp2_with fail
  go_ret
  exact ⟨rfl, chain b1 b2⟩
set_option maxHeartbeats 400000 in
theorem refBlank_any (c : UInt8) (w : World) :
    Calls Tryz.prog 93 #[.int .u8 (c.toNat : Int)] w fun e w' => e = .returned (.bool (isBl c)) ∧ w' = w := by
  have HB := hide (isBl_iff c)
  generalize (c.toNat : Int) = x at *
  cases hx : isBl c with
  | true =>
    have h5 := HB.out.1 hx
    clear hx HB
    rcases h5 with rfl | rfl | rfl | rfl | rfl
    all_goals
      go_enter Tryz.func93, Tryz.ntmps93
      go_wp2
      go_ret
      exact ⟨rfl, rfl⟩
  | false =>
    have h5 : ¬ (x = 9 ∨ x = 10 ∨ x = 12 ∨ x = 13 ∨ x = 32) := fun h => by rw [HB.out.2 h] at hx; cases hx
    have q1 : (x == 9) = false := by simp; omega
    have q2 : (x == 10) = false := by simp; omega
    have q3 : (x == 12) = false := by simp; omega
    have q4 : (x == 13) = false := by simp; omega
    have q5 : (x == 32) = false := by simp; omega
    clear hx HB h5
    go_enter Tryz.func93, Tryz.ntmps93
    go_wp2
    go_ret
    exact ⟨rfl, rfl⟩
end Go.Proofs.YtemikdmkjgmflaaGreatDoor

namespace Go.Proofs.YtemikdmkjgmflaaGreatDoor
open Go.Shelf Go.RowKit
set_option maxRecDepth 100000
def iren : Go.Shelf.Ren := ⟨fun | 137 => 102 | 217 => 112 | 266 => 118 | n => n, fun | 3 => 3 | 5 => 5 | 9 => 9 | 72 => 97 | n => n, fun  | n => n⟩
theorem lays137 : Go.Proofs.Lays.n137 Tryz.prog iren := {
  mixed := by kernel_rfl
  f137 := Tryz.func102.trans (congrArg some (by kernel_rfl))
  f217 := Tryz.func112.trans (congrArg some (by kernel_rfl))
  f266 := Tryz.func118.trans (congrArg some (by kernel_rfl))
  t3 := Tryz.underlying3
  a3 := Tryz.isAgg3
  z3 := Tryz.sizeOf3
  v3 := Tryz.zeroValue3
  t5 := Tryz.underlying5
  a5 := Tryz.isAgg5
  z5 := Tryz.sizeOf5
  v5 := Tryz.zeroValue5
  t9 := Tryz.underlying9
  a9 := Tryz.isAgg9
  z9 := Tryz.sizeOf9
  v9 := Tryz.zeroValue9 }
theorem index_mem (c : UInt8) : ∀ l : List UInt8, 0 ≤ Lib.indexByte l c ↔ l.contains c = true
  | [] => by simp [Lib.indexByte]
  | b :: l => by
    have ih := index_mem c l
    have ge := Lib.indexByte_ge l c
    unfold Lib.indexByte
    by_cases h : b = c
    · subst h; simp
    · have h1 : (b == c) = false := by simpa using h
      have h2 : (c == b) = false := by simpa using fun e => h e.symm
      rw [h1, List.contains_cons, h2, Bool.false_or]
      by_cases g : Lib.indexByte l c = -1
      · rw [g] at ih ⊢; simp at ih ⊢; exact ih
      · have g1 : (Lib.indexByte l c == -1) = false := by simpa using g
        rw [g1, ← ih]; simp; omega
theorem index_bl (c : UInt8) : decide (0 ≤ Lib.indexByte [9, 10, 12, 13, 32] c) = isBl c := by
  have := index_mem c [9, 10, 12, 13, 32]
  unfold isBl blanks
  cases h : ([9, 10, 12, 13, 32] : List UInt8).contains c with
  | true => rw [h] at this; exact decide_eq_true (this.2 rfl)
  | false => rw [h] at this; exact decide_eq_false (fun x => by have := this.1 x; cases this)
set_option maxHeartbeats 400000 in
theorem isBlank_any (c : UInt8) (w : World) :
    Calls Tryz.prog 88 #[.int .u8 (c.toNat : Int)] w fun e w' => e = .returned (.bool (isBl c)) ∧ w' = w := by
  have hI : Calls Tryz.prog 102 #[.string ⟨#[9, 10, 12, 13, 32]⟩, .int .u8 (c.toNat : Int)] w fun e w' => e = .returned (.int .i64 (Lib.indexByte [9, 10, 12, 13, 32] c)) ∧ w' = w := by
    have := Any.strings_IndexByte lays137 ⟨#[9, 10, 12, 13, 32]⟩ (c.toNat : Int) w
    have e : ((c.toNat : Int)).toNat.toUInt8 = c := by simp
    rw [e] at this; exact this
  have HI := hide hI
  clear hI
  rw [← index_bl c]
  go_enter Tryz.func88, Tryz.ntmps88
  go_wp2_with fail
  refine HI.out.mono ?_
  rintro e w1 ⟨rfl, rfl⟩
  go_wp2_with fail
  go_ret
  exact ⟨rfl, rfl⟩
set_option maxHeartbeats 1000000 in
theorem collapse_raw (s : ByteArray) (w : World) (hs : s.size ≤ 1099511627776) :
    Calls Tryz.prog 70 #[.string s] w fun e w' => e = .returned (.string (txt (colP 32 (stripS s).data.toList))) ∧ Below w.heap.size w w' := by
  have hS := fun w => strip_any s w (by omega)
  have he : EndsB (stripS s).data.toList := stripL_ends s.data.toList
  have hz := stripS_size s
  generalize stripS s = t at *
  have HS := hide hS
  clear hS
  go_enter Tryz.func70, Tryz.ntmps70
  go_wp2_with fail
  refine (HS.out _).mono ?_
  rintro e w1 ⟨rfl, b1⟩
  have h0 := (HoldsB.fresh w).below b1
  have b0 : Below w.heap.size w w1 := ((Below.refl _ w).alloc (Nat.le_refl _) _).trans (b1.mono (by simp))
  go_wp2_with fail
  go_loopw [11] (fun i wr => ∃ k : Nat, k ≤ t.size ∧ i = .int .i64 k ∧ HoldsB w.heap.size w.heap.size (colP 32 (t.data.toList.take k)) wr ∧ Below w.heap.size w wr) (fun i _ => t.size - (intOf i).toNat)
  case atStart => exact ⟨0, Nat.zero_le _, rfl, h0, b0⟩
  case round =>
    obtain ⟨k, hk, rfl, hh, hb⟩ := hrel
    by_cases hlt : k < t.size
    · have hle := colP_take_le t k
      have HT := hide (colP_take t k hlt)
      have hsz := hb.size
      have HE := hide (byteAt_eq t k hlt)
      cases hc : isBl t[k] with
      | false =>
        have HP := hide (cpiece_no (p := prevAt32 t k) (show isBl (byteAt t k) = false by rw [← HE.out]; exact hc))
        go_wp2_with fail
        refine (isBlank_any t[k] _).mono ?_
        rintro e w2 ⟨rfl, rfl⟩
        go_wp2_with fail
        refine (writeByte _ _ _ t[k] _ hh (by omega) hb.size).mono ?_
        rintro e w3 ⟨rfl, h3, b3⟩
        go_wp2_with fail
        go_roundw
        case rel => exact ⟨k + 1, by omega, by go_num, by rw [HT.out, HP.out, ← HE.out]; exact h3, hb.trans b3⟩
        case measure => simp [intOf]; omega
      | true =>
        have h0k : 0 < k := first_no t k he hlt hc
        have hk1 : k - 1 < t.size := by omega
        have hz1 : ((k : Int) - 1).toNat = k - 1 := by omega
        have HQ := hide (prev32_eq t k h0k hk1)
        cases hp : isBl (t[k - 1]'hk1) with
        | false =>
          have HP := hide (cpiece_one (p := prevAt32 t k) (show isBl (byteAt t k) = true by rw [← HE.out]; exact hc) (by rw [← HQ.out]; exact hp))
          go_wp2_with fail
          refine (isBlank_any t[k] _).mono ?_
          rintro e w2 ⟨rfl, rfl⟩
          go_wp2_with fail
          refine (isBlank_any (t[k - 1]'hk1) _).mono ?_
          rintro e w3 ⟨rfl, rfl⟩
          go_wp2_with fail
          refine (writeByte _ _ _ 32 _ hh (by omega) hb.size).mono ?_
          rintro e w4 ⟨rfl, h4, b4⟩
          go_wp2_with fail
          go_roundw
          case rel => exact ⟨k + 1, by omega, by go_num, by rw [HT.out, HP.out]; exact h4, hb.trans b4⟩
          case measure => simp [intOf]; omega
        | true =>
          have HP := hide (cpiece_nil (p := prevAt32 t k) (show isBl (byteAt t k) = true by rw [← HE.out]; exact hc) (by rw [← HQ.out]; exact hp))
          go_wp2_with fail
          refine (isBlank_any t[k] _).mono ?_
          rintro e w2 ⟨rfl, rfl⟩
          go_wp2_with fail
          refine (isBlank_any (t[k - 1]'hk1) _).mono ?_
          rintro e w3 ⟨rfl, rfl⟩
          go_wp2_with fail
          go_roundw
          case rel => exact ⟨k + 1, by omega, by go_num, by rw [HT.out, HP.out, List.append_nil]; exact hh, hb⟩
          case measure => simp [intOf]; omega
    · obtain rfl : k = t.size := by omega
      rw [take_all32] at hh
      go_wp2_with fail
      refine (builderText _ _ _ _ hh hb.size).mono ?_
      rintro r w2 ⟨rfl, b2⟩
      go_wp2_with fail
      go_ret
      exact ⟨rfl, hb.trans b2⟩
theorem collapse_any (s : ByteArray) (w : World) (hs : s.size ≤ 1099511627776) :
    Calls Tryz.prog 70 #[.string s] w fun e w' => e = .returned (.string (collapseS s)) ∧ Below w.heap.size w w' := by
  have e : txt (colP 32 (stripS s).data.toList) = collapseS s := congrArg txt (colP_strip s.data.toList 32)
  rw [← e]; exact collapse_raw s w hs
end Go.Proofs.YtemikdmkjgmflaaGreatDoor

namespace Go.Proofs.YtemikdmkjgmflaaGreatDoor
open Go.RowKit
set_option maxRecDepth 100000
theorem textTypes : TextTypes Tryz.prog 80 9 := ⟨Tryz.underlying80, Tryz.underlying9, by kernel_rfl⟩
set_option maxHeartbeats 2000000 in
set_option maxRecDepth 100000 in
theorem words_any (s : ByteArray) (w : World) (hs : s.size ≤ 274877906944) :
    Calls Tryz.prog 72 #[.string s] w fun e w' => ∃ v, e = .returned v ∧ OwnsT 9 w.heap.size w' v (wordsG [] s.data.toList) ∧ Below w.heap.size w w' := by
  go_enter Tryz.func72, Tryz.ntmps72
  go_wp2_with fail
  go_loopw [3, 4, 5] (fun v f i wr => ∃ (k : Nat) (q : Int) (done : List (List UInt8)), k ≤ s.size + 1 ∧ i = .int .i64 k ∧ f = .int .i64 q ∧ WS s k q done ∧ OwnsT 9 w.heap.size wr v done ∧ Below w.heap.size w wr) (fun _ _ i _ => s.size + 1 - (intOf i).toNat)
  case atStart => exact ⟨0, -1, [], Nat.zero_le _, rfl, rfl, ws_zero s, OwnsT.nil _ _ _, Below.refl _ _⟩
  case round =>
    obtain ⟨k, q, done, hk, rfl, rfl, hw, hown, hb⟩ := hrel
    have hlen := ws_len hw
    have hsz := hb.size
    by_cases hle : k ≤ s.size
    · by_cases hlt : k < s.size
      · cases hbl : isBl s[k] with
        | false =>
          rcases ws_cases hw with rfl | ⟨j, rfl⟩
          · have HW := hide (ws_begin hw hlt hbl)
            clear hw
            go_wp2_with fail
            refine (refBlank_any s[k] _).mono ?_
            rintro e w1 ⟨rfl, rfl⟩
            go_wp2_with fail
            go_roundw
            case rel => exact ⟨k + 1, k, done, by omega, by go_num, rfl, HW.out, hown, hb⟩
            case measure => simp [intOf]; omega
          · have HW := hide (ws_more hw hlt hbl)
            have hj := (ws_in hw).1
            clear hw
            go_wp2_with fail
            refine (refBlank_any s[k] _).mono ?_
            rintro e w1 ⟨rfl, rfl⟩
            go_wp2_with fail
            go_roundw
            case rel => exact ⟨k + 1, j, done, by omega, by go_num, rfl, HW.out, hown, hb⟩
            case measure => simp [intOf]; omega
        | true =>
          rcases ws_cases hw with rfl | ⟨j, rfl⟩
          · have HW := hide (ws_skip hw hlt hbl)
            clear hw
            go_wp2_with fail
            refine (refBlank_any s[k] _).mono ?_
            rintro e w1 ⟨rfl, rfl⟩
            go_wp2_with fail
            go_roundw
            case rel => exact ⟨k + 1, -1, done, by omega, by go_num, rfl, HW.out, hown, hb⟩
            case measure => simp [intOf]; omega
          · have HW := hide (ws_push hw hlt hbl)
            have hj := (ws_in hw).1
            have HX := hide (sub_txt s j k)
            clear hw
            go_wp2_with fail
            refine (refBlank_any s[k] _).mono ?_
            rintro e w1 ⟨rfl, rfl⟩
            go_wp2_with (at_builtin; refine wpList_append_item textTypes _ _ rfl _ _ rfl w.heap.size _ _ (sub s j k) HX.out rfl hown rfl (by omega) (by omega) ?_; intro v' w' hown' hb')
            go_roundw
            case rel => exact ⟨k + 1, -1, done ++ [sub s j k], by omega, by go_num, rfl, HW.out, hown', hb.trans hb'⟩
            case measure => simp [intOf]; omega
      · obtain rfl : k = s.size := by omega
        have hbl : True := trivial
        rcases ws_cases hw with rfl | ⟨j, rfl⟩
        · have HW := hide (ws_last hw)
          clear hw
          go_wp2_with fail
          go_roundw
          case rel => exact ⟨s.size + 1, -1, done, by omega, by go_num, rfl, HW.out, hown, hb⟩
          case measure => simp [intOf]
        · have HW := hide (ws_final hw)
          have hj := (ws_in hw).1
          have HX := hide (sub_txt s j s.size)
          clear hw
          go_wp2_with (at_builtin; refine wpList_append_item textTypes wr _ rfl _ _ rfl w.heap.size _ _ (sub s j s.size) HX.out rfl hown rfl (by omega) (by omega) ?_; intro v' w' hown' hb')
          go_roundw
          case rel => exact ⟨s.size + 1, -1, done ++ [sub s j s.size], by omega, by go_num, rfl, HW.out, hown', hb.trans hb'⟩
          case measure => simp [intOf]
    · have HE := hide (ws_end hw hle)
      have hi : ¬ (k : Int) ≤ (s.size : Int) := by omega
      go_wp2_with fail
      go_ret
      exact ⟨_, rfl, by rw [← HE.out]; exact hown, hb⟩
set_option maxHeartbeats 2000000 in
set_option maxRecDepth 100000 in
theorem refCollapse_any (s : ByteArray) (w : World) (hs : s.size ≤ 274877906944) :
    Calls Tryz.prog 41 #[.string s] w fun e w' => e = .returned (.string (collapseS s)) ∧ Below w.heap.size w w' := by
  have hW := fun w => words_any s w hs
  have hcnt := wordsG_count s.data.toList []
  have hjl := joinW_take_le s.data.toList
  have hwl := word_le s.data.toList
  have hj : joinW (wordsG [] s.data.toList) = collapseL s.data.toList := join_words _
  unfold collapseS
  rw [← hj]
  clear hj
  have hsl : s.data.toList.length = s.size := by simp
  rw [hsl] at hcnt hjl hwl
  generalize wordsG [] s.data.toList = ws at *
  have HW := hide hW
  have HJ := hide hjl
  have HL := hide hwl
  clear hW hjl hwl hsl
  go_enter Tryz.func41, Tryz.ntmps41
  go_wp2_with fail
  refine (HW.out _).mono ?_
  rintro e w1 ⟨v, rfl, hv, b1⟩
  have hform : (v = .slice none 0 0 ∧ ws = []) ∨ ∃ g cap, v = .slice (some ⟨g, 0, none⟩) ws.length cap ∧ g < w1.heap.size ∧ ∀ i (h : i < ws.length), w1.cell? ⟨g, i, none⟩ = some (.string (txt ws[i])) := by
    rcases hv.2 with ⟨h1, h2⟩ | ⟨g, cap, cur, h1, h2, h3, h4⟩
    · exact .inl ⟨h1, List.eq_nil_of_length_eq_zero h2⟩
    · refine .inr ⟨g, cap, h1, ?_, fun i h => ?_⟩
      · rcases Nat.lt_or_ge g w1.heap.size with h' | h'
        · exact h'
        · simp [Array.getElem?_eq_none h'] at h3
      · subst h1
        rw [World.ownsRow.cellAt hv i (by omega)]
        simp [cellT, h]
  clear hv
  rcases hform with ⟨rfl, rfl⟩ | ⟨g, cap, rfl, hg, hcells⟩
  · go_wp2_with fail
    go_loop [4, 5] (fun o i => o = .slice none 0 0 ∧ i = .int .i64 0) (fun _ _ => 0)
    case atStart => exact ⟨rfl, rfl⟩
    case round =>
      obtain ⟨rfl, rfl⟩ := hrel
      have hend := (OwnsB.nil 5 w1.heap.size w1).text byteTypes
      go_wp2_with fail
      go_ret
      exact ⟨rfl, b1⟩
  · have HC := hide hcells
    clear hcells
    go_wp2_with fail
    go_loopw [4, 5] (fun o i wr => ∃ k : Nat, k ≤ ws.length ∧ i = .int .i64 k ∧ OwnsB 5 w1.heap.size wr o (joinW (ws.take k)) ∧ Below w1.heap.size w1 wr) (fun _ i _ => ws.length - (intOf i).toNat)
    case atStart => exact ⟨0, Nat.zero_le _, rfl, OwnsB.nil _ _ _, Below.refl _ _⟩
    case round =>
      obtain ⟨k, hk, rfl, hown, hb⟩ := hrel
      have hsz := hb.size
      have hl1 := HJ.out k
      by_cases hlt : k < ws.length
      · have hl2 := HL.out k hlt
        have HT := hide (joinW_take ws k hlt)
        have hc : wr.cell? ⟨g, k, none⟩ = some (.string (txt ws[k])) := (hb.cell (p := ⟨g, k, none⟩) hg).trans (HC.out k hlt)
        have hts : (txt ws[k]).size ≤ 2 * s.size := by rw [txt_size]; exact hl2
        have HD : Hid ((txt ws[k]).data.toList = ws[k]) := txt_data _
        generalize txt ws[k] = tk at *
        by_cases h0 : k = 0
        · subst h0
          rw [if_pos rfl, List.append_nil] at HT
          go_wp2_with (at_builtin; refine wpList_append_text byteTypes wr rfl _ _ rfl w1.heap.size _ _ tk rfl hown rfl (by omega) (by omega) ?_; intro v2 w2 hown2 hb2)
          go_roundw
          case rel => exact ⟨0 + 1, by omega, by go_num, by rw [HT.out, ← HD.out]; exact hown2, hb.trans hb2⟩
          case measure => simp [intOf]; omega
        · rw [if_neg h0] at HT
          have h0i : (0 : Int) < (k : Int) := by omega
          have tok : True := trivial
          go_wp2_with (first | (at_builtin; have _t := tok; refine wpList_append_byte byteTypes wr _ rfl _ _ rfl w1.heap.size _ _ 32 rfl rfl hown rfl (by omega) (by omega) ?_; intro v1 w3 hown1 hb3; clear tok; have hc3 : w3.cell? ⟨g, k, none⟩ = some (.string tk) := (hb3.cell (p := ⟨g, k, none⟩) hg).trans hc; have hsz3 := hb3.size; have hl3 : (joinW (ws.take k) ++ [32]).length ≤ 2 * s.size + 1 := by (rw [List.length_append]; simp; exact hl1)) | (at_builtin; refine wpList_append_text byteTypes w3 rfl _ _ rfl w1.heap.size _ _ tk rfl hown1 rfl (by omega) (by omega) ?_; intro v2 w4 hown2 hb4))
          go_roundw
          case rel => exact ⟨k + 1, by omega, by go_num, by rw [HT.out, ← HD.out]; exact hown2, hb.trans (hb3.trans hb4)⟩
          case measure => simp [intOf]; omega
      · obtain rfl : k = ws.length := by omega
        rw [List.take_length] at hown
        have hend := hown.text byteTypes
        go_wp2_with fail
        go_ret
        exact ⟨rfl, chain b1 hb⟩

end Go.Proofs.YtemikdmkjgmflaaGreatDoor
