/- Joined texts. MomRd2: The program's reader: 'digits'. Condition: texts as long as the law asks. IxB: What strings.IndexByte answers: the shelf's contract, laid at this program. No condition. MomLib: What strconv.Atoi, strconv.Itoa, strings.Repeat, strings.TrimRight and strings.IndexByte answer: the shelf's contracts, laid at this program. Conditions: the library's two errors of strconv hold some error or none; its table of powers of ten reads as its text lays it. MomRd3: The program's reader: 'next', 'sign'. Condition: texts as long as the law asks. MomRd4: The program's reader: 'value', 'year', 'two', 'below', 'thousandths'. Conditions: texts as long as the law asks; the library's errors of strconv hold some error or none. DayTabs: What the program's table of lengths holds, cell by cell, where it reads as its text lays it. No condition. -/
import Derived.Test.YtpkpkpiphgjbaaaGreatDoorJcl18
import Derived.Shelf.Small.Strs
import Derived.Lib.IndexBytes
import Derived.Test.YtpkpkpiphgjbaaaGreatDoorProg
import Derived.Shelf.Strconv.AtoiAll
import Derived.Shelf.Strconv.Itoa3
import Derived.Lib.ItoaMem
import Derived.Lib.AppendIntMem
import Derived.Shelf.Strings.Repeat
import Derived.Shelf.Strings.Trim
import Derived.Test.YtpkpkpiphgjbaaaGreatDoorJcl17
import Derived.Test.YtpkpkpiphgjbaaaGreatDoorJcl16
import Derived.Test.YtpkpkpiphgjbaaaGreatDoorJcl6
import Derived.Lib.LaidU8
import Derived.Test.YtpkpkpiphgjbaaaGreatDoorRows
import Derived.Test.YtpkpkpiphgjbaaaGreatDoorJcl1
namespace Go.Proofs.YtpkpkpiphgjbaaaGreatDoor
open Go.RowKit
set_option maxRecDepth 100000

theorem all_takeDg {l : List UInt8} (h : ∀ c ∈ l, isDg c = true) : l.takeWhile isDg = l := by
  have := (takeWhile_all (k := []) h (fun _ _ e => by cases e)).1
  rw [List.append_nil] at this
  exact this
/-- The digits end at a place. -/
theorem digs_at {s : ByteArray} {m k : Nat} (hk : k ≤ s.size) (hm : k ≤ m) (h : ∀ c ∈ s.data.toList.take k, isDg c = true) (he : k = m ∨ k = s.size ∨ ∃ g : k < s.size, isDg s[k] = false) : digsOf m s.data.toList = s.data.toList.take k := by
  unfold digsOf
  have hl : s.data.toList.length = s.size := by simp
  rcases he with e | e | ⟨g, e⟩
  · subst e; exact all_takeDg h
  · subst e
    rw [List.take_of_length_le (show s.data.toList.length ≤ m by omega)]
    rw [List.take_of_length_le (show s.data.toList.length ≤ s.size by omega)] at h ⊢
    exact all_takeDg h
  · have e1 : s.data.toList = s.data.toList.take k ++ s[k] :: s.data.toList.drop (k + 1) := by
      have : s[k] = s.data.toList[k]'(by simpa using g) := by simp; rfl
      rw [this, ← List.drop_eq_getElem_cons]
      exact (List.take_append_drop k _).symm
    rcases Nat.lt_or_ge k m with g2 | g2
    · have e2 : s.data.toList.take m = s.data.toList.take k ++ s[k] :: (s.data.toList.drop (k + 1)).take (m - k - 1) := by
        have := congrArg (List.take m) e1
        rw [List.take_append, List.length_take, List.take_take, Nat.min_eq_right (by omega), Nat.min_eq_left (by omega)] at this
        rw [this]
        obtain ⟨j, rfl⟩ : ∃ j, m = k + 1 + j := ⟨m - k - 1, by omega⟩
        rw [show k + 1 + j - k = j + 1 by omega, show j + 1 - 1 = j by omega, List.take_succ_cons]
      rw [e2]
      exact (takeWhile_all h (fun c r' x => by cases x; exact e)).1
    · obtain rfl : k = m := by omega
      exact all_takeDg h
theorem txt_pre (s : ByteArray) (k : Nat) : s.extract 0 k = txt (s.data.toList.take k) := by
  apply ByteArray.ext
  rw [show (txt (s.data.toList.take k)).data = (s.data.toList.take k).toArray from rfl]
  apply Array.ext'
  simp
theorem txt_post (s : ByteArray) (k : Nat) : s.extract k s.size = txt (s.data.toList.drop k) := by
  apply ByteArray.ext
  rw [show (txt (s.data.toList.drop k)).data = (s.data.toList.drop k).toArray from rfl]
  apply Array.ext'
  have : (s.extract k s.size).data.toList = (s.data.toList.drop k).take (s.size - k) := by simp
  rw [this, List.take_of_length_le (by simp)]

set_option maxHeartbeats 1000000 in
theorem digits_any (w0 : World) (R : Nat) (l : List UInt8) (b : Bool) (m : Nat) (w : World) (h : Rd w0 w R l b) (hm : m ≤ 1000000) (hl : l.length ≤ 1000000) :
    Calls Tryz.prog 180 #[.pointer (some ⟨R, 0, none⟩), .int .i64 m] w fun e w' => e = .returned (.string (txt (digsOf m l))) ∧ Rd w0 w' R (l.drop (digsOf m l).length) b := by
  obtain ⟨s, rfl⟩ : ∃ s : ByteArray, l = s.data.toList := ⟨txt l, rfl⟩
  have hs : s.size ≤ 1000000 := by simpa using hl
  have f0 := h.frozen 0
  have c0 : w.cell? ⟨R, 0, none⟩ = some (.string s) := h.cell0
  have h0 := hide h
  clear h hl
  go_enter Tryz.func180, Tryz.ntmps180
  go_wp2_with fail
  go_loop [5] (fun i => ∃ k : Nat, k ≤ s.size ∧ k ≤ m ∧ i = .int .i64 k ∧ Hid (∀ c ∈ s.data.toList.take k, isDg c = true)) (fun i => s.size - (intOf i).toNat)
  case atStart => exact ⟨0, Nat.zero_le _, Nat.zero_le _, rfl, by intro c hc; simp at hc⟩
  case round =>
    obtain ⟨k, hk, hkm, rfl, hd⟩ := hrel
    have END : (k = m ∨ k = s.size ∨ ∃ g : k < s.size, isDg s[k] = false) → Hid (txt (digsOf m s.data.toList) = s.extract 0 k ∧ Rd w0 (w.setCell ⟨R, 0, none⟩ (.string (s.extract k s.size))) R (s.data.toList.drop (digsOf m s.data.toList).length) b) := by
      intro he
      have e := digs_at hk hkm hd.out he
      refine ⟨by rw [e, txt_pre], ?_⟩
      rw [e, txt_post, List.length_take, Nat.min_eq_left (by simpa using hk)]
      exact h0.out.set0 _
    by_cases h1 : k < m
    · by_cases h2 : k < s.size
      · have hI := isDg_iff s[k]
        have hN := isDg_not s[k]
        have NX : isDg s[k] = true → Hid (∀ c ∈ s.data.toList.take (k + 1), isDg c = true) := by
          intro g c hc
          have : s[k] = s.data.toList[k]'(by simpa using h2) := by simp; rfl
          rw [List.take_succ_eq_append_getElem (by simpa using h2), ← this] at hc
          rcases List.mem_append.1 hc with hc | hc
          · exact hd.out c hc
          · simp at hc; subst hc; exact g
        have i1 : (k : Int) < (m : Int) := by omega
        rcases (show (s[k].toNat : Int) < 48 ∨ (48 ≤ (s[k].toNat : Int) ∧ 57 < (s[k].toNat : Int)) ∨ (48 ≤ (s[k].toNat : Int) ∧ (s[k].toNat : Int) ≤ 57) by omega) with g1 | ⟨g1, g2⟩ | ⟨g1, g2⟩
        · have E := END (.inr (.inr ⟨h2, hN.2 (by omega)⟩))
          clear hI hN NX END hd
          go_wp2_with fail
          go_ret
          exact ⟨ret_str E.out.1.symm, E.out.2⟩
        · have E := END (.inr (.inr ⟨h2, hN.2 (by omega)⟩))
          clear hI hN NX END hd
          go_wp2_with fail
          go_ret
          exact ⟨ret_str E.out.1.symm, E.out.2⟩
        · have E := NX (hI.2 (by omega))
          clear hI hN NX END hd
          go_wp2_with fail
          go_round
          case rel => exact ⟨k + 1, by omega, by omega, by go_num, E⟩
          case measure => simp [intOf]; omega
      · have E := END (.inr (.inl (by omega)))
        have i1 : (k : Int) < (m : Int) := by omega
        have i2 : (s.size : Int) ≤ (k : Int) := by omega
        clear END hd
        go_wp2_with fail
        go_ret
        exact ⟨ret_str E.out.1.symm, E.out.2⟩
    · have E := END (.inl (by omega))
      have i1 : (m : Int) ≤ (k : Int) := by omega
      clear END hd
      go_wp2_with fail
      go_ret
      exact ⟨ret_str E.out.1.symm, E.out.2⟩

end Go.Proofs.YtpkpkpiphgjbaaaGreatDoor

namespace Go.Proofs.YtpkpkpiphgjbaaaGreatDoor
open Go.Shelf Go.RowKit
set_option maxRecDepth 100000

def ibren : Go.Shelf.Ren := ⟨fun | 137 => 83 | 217 => 130 | 266 => 169 | n => n, fun | 3 => 3 | 5 => 5 | 9 => 9 | 72 => 66 | n => n, fun  | n => n⟩
theorem lays137 : Go.Proofs.Lays.n137 Tryz.prog ibren := {
  mixed := by kernel_rfl
  f137 := Tryz.func83.trans (congrArg some (by kernel_rfl))
  f217 := Tryz.func130.trans (congrArg some (by kernel_rfl))
  f266 := Tryz.func169.trans (congrArg some (by kernel_rfl))
  t3 := Tryz.underlying3
  a3 := Tryz.isAgg3
  z3 := Tryz.sizeOf3
  v3 := Tryz.zeroValue3
  t5 := Tryz.underlying5
  a5 := Tryz.isAgg5
  z5 := Tryz.sizeOf5
  v5 := Tryz.zeroValue5
  t9 := Tryz.underlying9
  a9 := Tryz.isAgg9
  z9 := Tryz.sizeOf9
  v9 := Tryz.zeroValue9 }
theorem indexByte_is (s : ByteArray) (c : UInt8) (w : World) :
    Calls Tryz.prog 83 #[.string s, .int .u8 (c.toNat : Int)] w fun e w' => e = .returned (.int .i64 (Lib.indexByte s.data.toList c)) ∧ w' = w := by
  have := Any.strings_IndexByte lays137 s (c.toNat : Int) w
  rw [show ((c.toNat : Int)).toNat.toUInt8 = c by simp] at this
  exact this

end Go.Proofs.YtpkpkpiphgjbaaaGreatDoor

namespace Go.Proofs.YtpkpkpiphgjbaaaGreatDoor
open Go.Shelf Go.RowKit
set_option maxRecDepth 100000

def atren : Go.Shelf.Ren := ⟨fun | 129 => 214 | 171 => 190 | 172 => 197 | 205 => 227 | 243 => 205 | 244 => 209 | 245 => 210 | 246 => 218 | 247 => 219 | 279 => 220 | 280 => 221 | 281 => 222 | 282 => 223 | 283 => 201 | 284 => 202 | 285 => 203 | 286 => 204 | 287 => 226 | 316 => 52 | 317 => 213 | 318 => 215 | 319 => 216 | 320 => 217 | 321 => 228 | 322 => 229 | 337 => 224 | 338 => 225 | n => n, fun | 0 => 0 | 2 => 2 | 3 => 3 | 4 => 4 | 5 => 5 | 9 => 9 | 20 => 20 | 21 => 21 | 37 => 63 | 46 => 168 | 51 => 181 | 53 => 91 | 72 => 66 | 75 => 69 | 76 => 70 | 80 => 73 | 85 => 194 | 127 => 89 | 143 => 208 | 145 => 210 | 167 => 193 | 168 => 196 | 171 => 175 | 173 => 178 | 175 => 200 | 210 => 203 | 212 => 189 | 213 => 190 | 232 => 205 | 233 => 206 | n => n, fun | 15 => 6 | 16 => 7 | 17 => 5 | 18 => 8 | 19 => 9 | n => n⟩
theorem laysC172 : Go.Proofs.LaysC.n172 Tryz.prog atren := {
  mixed := by kernel_rfl
  f129 := Tryz.func214.trans (congrArg some (by kernel_rfl))
  f171 := Tryz.func190.trans (congrArg some (by kernel_rfl))
  f172 := Tryz.func197.trans (congrArg some (by kernel_rfl))
  f205 := Tryz.func227.trans (congrArg some (by kernel_rfl))
  f243 := Tryz.func205.trans (congrArg some (by kernel_rfl))
  f244 := Tryz.func209.trans (congrArg some (by kernel_rfl))
  f245 := Tryz.func210.trans (congrArg some (by kernel_rfl))
  f246 := Tryz.func218.trans (congrArg some (by kernel_rfl))
  f247 := Tryz.func219.trans (congrArg some (by kernel_rfl))
  f279 := Tryz.func220.trans (congrArg some (by kernel_rfl))
  f280 := Tryz.func221.trans (congrArg some (by kernel_rfl))
  f281 := Tryz.func222.trans (congrArg some (by kernel_rfl))
  f282 := Tryz.func223.trans (congrArg some (by kernel_rfl))
  f283 := Tryz.func201.trans (congrArg some (by kernel_rfl))
  f284 := Tryz.func202.trans (congrArg some (by kernel_rfl))
  f285 := Tryz.func203.trans (congrArg some (by kernel_rfl))
  f286 := Tryz.func204.trans (congrArg some (by kernel_rfl))
  f287 := Tryz.func226.trans (congrArg some (by kernel_rfl))
  f316 := Tryz.func52.trans (congrArg some (by kernel_rfl))
  f317 := Tryz.func213.trans (congrArg some (by kernel_rfl))
  f318 := Tryz.func215.trans (congrArg some (by kernel_rfl))
  f319 := Tryz.func216.trans (congrArg some (by kernel_rfl))
  f320 := Tryz.func217.trans (congrArg some (by kernel_rfl))
  f321 := Tryz.func228.trans (congrArg some (by kernel_rfl))
  f322 := Tryz.func229.trans (congrArg some (by kernel_rfl))
  f337 := Tryz.func224.trans (congrArg some (by kernel_rfl))
  f338 := Tryz.func225.trans (congrArg some (by kernel_rfl))
  t0 := Tryz.underlying0
  a0 := Tryz.isAgg0
  z0 := Tryz.sizeOf0
  v0 := Tryz.zeroValue0
  t2 := Tryz.underlying2
  a2 := Tryz.isAgg2
  z2 := Tryz.sizeOf2
  v2 := Tryz.zeroValue2
  t3 := Tryz.underlying3
  a3 := Tryz.isAgg3
  z3 := Tryz.sizeOf3
  v3 := Tryz.zeroValue3
  t4 := Tryz.underlying4
  a4 := Tryz.isAgg4
  z4 := Tryz.sizeOf4
  v4 := Tryz.zeroValue4
  t5 := Tryz.underlying5
  a5 := Tryz.isAgg5
  z5 := Tryz.sizeOf5
  v5 := Tryz.zeroValue5
  t9 := Tryz.underlying9
  a9 := Tryz.isAgg9
  z9 := Tryz.sizeOf9
  v9 := Tryz.zeroValue9
  t20 := Tryz.underlying20
  a20 := Tryz.isAgg20
  z20 := Tryz.sizeOf20
  v20 := Tryz.zeroValue20
  t21 := Tryz.underlying21
  a21 := Tryz.isAgg21
  z21 := Tryz.sizeOf21
  v21 := Tryz.zeroValue21
  t37 := Tryz.underlying63
  a37 := Tryz.isAgg63
  z37 := Tryz.sizeOf63
  v37 := Tryz.zeroValue63
  t46 := Tryz.underlying168
  a46 := Tryz.isAgg168
  z46 := Tryz.sizeOf168
  v46 := Tryz.zeroValue168
  t51 := Tryz.underlying181
  a51 := Tryz.isAgg181
  z51 := Tryz.sizeOf181
  v51 := Tryz.zeroValue181
  t53 := Tryz.underlying91
  a53 := Tryz.isAgg91
  z53 := Tryz.sizeOf91
  v53 := Tryz.zeroValue91
  t75 := Tryz.underlying69
  a75 := Tryz.isAgg69
  z75 := Tryz.sizeOf69
  v75 := Tryz.zeroValue69
  t76 := Tryz.underlying70
  a76 := Tryz.isAgg70
  z76 := Tryz.sizeOf70
  v76 := Tryz.zeroValue70
  t85 := Tryz.underlying194
  a85 := Tryz.isAgg194
  z85 := Tryz.sizeOf194
  v85 := Tryz.zeroValue194
  t127 := Tryz.underlying89
  a127 := Tryz.isAgg89
  z127 := Tryz.sizeOf89
  v127 := Tryz.zeroValue89
  t143 := Tryz.underlying208
  a143 := Tryz.isAgg208
  z143 := Tryz.sizeOf208
  v143 := Tryz.zeroValue208
  t145 := Tryz.underlying210
  a145 := Tryz.isAgg210
  z145 := Tryz.sizeOf210
  v145 := Tryz.zeroValue210
  t167 := Tryz.underlying193
  a167 := Tryz.isAgg193
  z167 := Tryz.sizeOf193
  v167 := Tryz.zeroValue193
  t168 := Tryz.underlying196
  a168 := Tryz.isAgg196
  z168 := Tryz.sizeOf196
  v168 := Tryz.zeroValue196
  t171 := Tryz.underlying175
  a171 := Tryz.isAgg175
  z171 := Tryz.sizeOf175
  v171 := Tryz.zeroValue175
  t173 := Tryz.underlying178
  a173 := Tryz.isAgg178
  z173 := Tryz.sizeOf178
  v173 := Tryz.zeroValue178
  t175 := Tryz.underlying200
  a175 := Tryz.isAgg200
  z175 := Tryz.sizeOf200
  v175 := Tryz.zeroValue200
  t210 := Tryz.underlying203
  a210 := Tryz.isAgg203
  z210 := Tryz.sizeOf203
  v210 := Tryz.zeroValue203
  t212 := Tryz.underlying189
  a212 := Tryz.isAgg189
  z212 := Tryz.sizeOf189
  v212 := Tryz.zeroValue189
  t213 := Tryz.underlying190
  a213 := Tryz.isAgg190
  z213 := Tryz.sizeOf190
  t232 := Tryz.underlying205
  a232 := Tryz.isAgg205
  z232 := Tryz.sizeOf205
  v232 := Tryz.zeroValue205
  t233 := Tryz.underlying206
  a233 := Tryz.isAgg206
  z233 := Tryz.sizeOf206
  v233 := Tryz.zeroValue206
  g15 := by kernel_rfl
  g16 := by kernel_rfl
  g17 := by kernel_rfl
  g18 := by kernel_rfl
  g19 := by kernel_rfl
  t80 := Tryz.underlying73
  a80 := Tryz.isAgg73
  z80 := Tryz.sizeOf73
  v80 := Tryz.zeroValue73
  i0 := by kernel_rfl
  i2 := by kernel_rfl
  i3 := by kernel_rfl
  i4 := by kernel_rfl
  i5 := by kernel_rfl
  i9 := by kernel_rfl
  i20 := by kernel_rfl
  i21 := by kernel_rfl
  i37 := by kernel_rfl
  i46 := by kernel_rfl
  i51 := by kernel_rfl
  i53 := by kernel_rfl
  i75 := by kernel_rfl
  i76 := by kernel_rfl
  i80 := by kernel_rfl
  i85 := by kernel_rfl
  i127 := by kernel_rfl
  i143 := by kernel_rfl
  i145 := by kernel_rfl
  i167 := by kernel_rfl
  i168 := by kernel_rfl
  i171 := by kernel_rfl
  i173 := by kernel_rfl
  i175 := by kernel_rfl
  i210 := by kernel_rfl
  i212 := by kernel_rfl
  i232 := by kernel_rfl
  i233 := by kernel_rfl
  m15 := by kernel_rfl
  m16 := by kernel_rfl
  m17 := by kernel_rfl
  m18 := by kernel_rfl
  m19 := by kernel_rfl
  c0 := by kernel_rfl
  c2 := by kernel_rfl
  c3 := by kernel_rfl
  c4 := by kernel_rfl
  c5 := by kernel_rfl
  c9 := by kernel_rfl
  c20 := by kernel_rfl
  c21 := by kernel_rfl
  c37 := by kernel_rfl
  c46 := by kernel_rfl
  c51 := by kernel_rfl
  c53 := by kernel_rfl
  c75 := by kernel_rfl
  c76 := by kernel_rfl
  c80 := by kernel_rfl
  c85 := by kernel_rfl
  c127 := by kernel_rfl
  c143 := by kernel_rfl
  c145 := by kernel_rfl
  c167 := by kernel_rfl
  c168 := by kernel_rfl
  c171 := by kernel_rfl
  c173 := by kernel_rfl
  c175 := by kernel_rfl
  c210 := by kernel_rfl
  c212 := by kernel_rfl
  c213 := by kernel_rfl
  c232 := by kernel_rfl
  c233 := by kernel_rfl }
def itren : Go.Shelf.Ren := ⟨fun | 129 => 214 | 171 => 190 | 243 => 205 | 246 => 218 | 283 => 201 | 284 => 202 | 285 => 203 | 286 => 204 | 317 => 213 | 318 => 215 | 319 => 216 | 320 => 217 | 337 => 224 | 338 => 225 | n => n, fun | 0 => 0 | 2 => 2 | 3 => 3 | 4 => 4 | 5 => 5 | 9 => 9 | 20 => 20 | 37 => 63 | 46 => 168 | 51 => 181 | 53 => 91 | 72 => 66 | 171 => 175 | 173 => 178 | 212 => 189 | 213 => 190 | 232 => 205 | 233 => 206 | n => n, fun | 17 => 5 | 18 => 8 | 19 => 9 | n => n⟩
theorem laysM171 : Go.Proofs.LaysM.n171 Tryz.prog itren := {
  mixed := by kernel_rfl
  f129 := Tryz.func214.trans (congrArg some (by kernel_rfl))
  f171 := Tryz.func190.trans (congrArg some (by kernel_rfl))
  f243 := Tryz.func205.trans (congrArg some (by kernel_rfl))
  f246 := Tryz.func218.trans (congrArg some (by kernel_rfl))
  f283 := Tryz.func201.trans (congrArg some (by kernel_rfl))
  f284 := Tryz.func202.trans (congrArg some (by kernel_rfl))
  f285 := Tryz.func203.trans (congrArg some (by kernel_rfl))
  f286 := Tryz.func204.trans (congrArg some (by kernel_rfl))
  f317 := Tryz.func213.trans (congrArg some (by kernel_rfl))
  f318 := Tryz.func215.trans (congrArg some (by kernel_rfl))
  f319 := Tryz.func216.trans (congrArg some (by kernel_rfl))
  f320 := Tryz.func217.trans (congrArg some (by kernel_rfl))
  f337 := Tryz.func224.trans (congrArg some (by kernel_rfl))
  f338 := Tryz.func225.trans (congrArg some (by kernel_rfl))
  t0 := Tryz.underlying0
  a0 := Tryz.isAgg0
  z0 := Tryz.sizeOf0
  v0 := Tryz.zeroValue0
  t2 := Tryz.underlying2
  a2 := Tryz.isAgg2
  z2 := Tryz.sizeOf2
  v2 := Tryz.zeroValue2
  t3 := Tryz.underlying3
  a3 := Tryz.isAgg3
  z3 := Tryz.sizeOf3
  v3 := Tryz.zeroValue3
  t4 := Tryz.underlying4
  a4 := Tryz.isAgg4
  z4 := Tryz.sizeOf4
  v4 := Tryz.zeroValue4
  t5 := Tryz.underlying5
  a5 := Tryz.isAgg5
  z5 := Tryz.sizeOf5
  v5 := Tryz.zeroValue5
  t9 := Tryz.underlying9
  a9 := Tryz.isAgg9
  z9 := Tryz.sizeOf9
  v9 := Tryz.zeroValue9
  t20 := Tryz.underlying20
  a20 := Tryz.isAgg20
  z20 := Tryz.sizeOf20
  v20 := Tryz.zeroValue20
  t37 := Tryz.underlying63
  a37 := Tryz.isAgg63
  z37 := Tryz.sizeOf63
  v37 := Tryz.zeroValue63
  t46 := Tryz.underlying168
  a46 := Tryz.isAgg168
  z46 := Tryz.sizeOf168
  v46 := Tryz.zeroValue168
  t51 := Tryz.underlying181
  a51 := Tryz.isAgg181
  z51 := Tryz.sizeOf181
  v51 := Tryz.zeroValue181
  t53 := Tryz.underlying91
  a53 := Tryz.isAgg91
  z53 := Tryz.sizeOf91
  v53 := Tryz.zeroValue91
  t171 := Tryz.underlying175
  a171 := Tryz.isAgg175
  z171 := Tryz.sizeOf175
  v171 := Tryz.zeroValue175
  t173 := Tryz.underlying178
  a173 := Tryz.isAgg178
  z173 := Tryz.sizeOf178
  v173 := Tryz.zeroValue178
  t212 := Tryz.underlying189
  a212 := Tryz.isAgg189
  z212 := Tryz.sizeOf189
  v212 := Tryz.zeroValue189
  t213 := Tryz.underlying190
  a213 := Tryz.isAgg190
  z213 := Tryz.sizeOf190
  t232 := Tryz.underlying205
  a232 := Tryz.isAgg205
  z232 := Tryz.sizeOf205
  v232 := Tryz.zeroValue205
  t233 := Tryz.underlying206
  a233 := Tryz.isAgg206
  z233 := Tryz.sizeOf206
  v233 := Tryz.zeroValue206
  g17 := by kernel_rfl
  g18 := by kernel_rfl
  g19 := by kernel_rfl
  i0 := by kernel_rfl
  i2 := by kernel_rfl
  i3 := by kernel_rfl
  i4 := by kernel_rfl
  i5 := by kernel_rfl
  i9 := by kernel_rfl
  i20 := by kernel_rfl
  i37 := by kernel_rfl
  i46 := by kernel_rfl
  i51 := by kernel_rfl
  i53 := by kernel_rfl
  i171 := by kernel_rfl
  i173 := by kernel_rfl
  i212 := by kernel_rfl
  i232 := by kernel_rfl
  i233 := by kernel_rfl
  m17 := by kernel_rfl
  m18 := by kernel_rfl
  m19 := by kernel_rfl }
def rpren : Go.Shelf.Ren := ⟨fun | 99 => 199 | 105 => 187 | 165 => 65 | 166 => 66 | 169 => 68 | 170 => 200 | 206 => 196 | 212 => 198 | 240 => 101 | 241 => 102 | 263 => 211 | 264 => 212 | 276 => 139 | 277 => 140 | n => n, fun | 0 => 0 | 3 => 3 | 4 => 4 | 5 => 5 | 9 => 9 | 20 => 20 | 37 => 63 | 46 => 168 | 51 => 181 | 53 => 91 | 70 => 64 | 72 => 66 | 75 => 69 | 76 => 70 | 80 => 73 | 109 => 173 | 127 => 89 | 146 => 182 | 148 => 186 | 164 => 138 | n => n, fun  | n => n⟩
theorem lays105 : Go.Proofs.Lays.n105 Tryz.prog rpren := {
  mixed := by kernel_rfl
  f99 := Tryz.func199.trans (congrArg some (by kernel_rfl))
  f105 := Tryz.func187.trans (congrArg some (by kernel_rfl))
  f165 := Tryz.func65.trans (congrArg some (by kernel_rfl))
  f166 := Tryz.func66.trans (congrArg some (by kernel_rfl))
  f169 := Tryz.func68.trans (congrArg some (by kernel_rfl))
  f170 := Tryz.func200.trans (congrArg some (by kernel_rfl))
  f206 := Tryz.func196.trans (congrArg some (by kernel_rfl))
  f212 := Tryz.func198.trans (congrArg some (by kernel_rfl))
  f240 := Tryz.func101.trans (congrArg some (by kernel_rfl))
  f241 := Tryz.func102.trans (congrArg some (by kernel_rfl))
  f263 := Tryz.func211.trans (congrArg some (by kernel_rfl))
  f264 := Tryz.func212.trans (congrArg some (by kernel_rfl))
  f276 := Tryz.func139.trans (congrArg some (by kernel_rfl))
  f277 := Tryz.func140.trans (congrArg some (by kernel_rfl))
  t0 := Tryz.underlying0
  a0 := Tryz.isAgg0
  z0 := Tryz.sizeOf0
  v0 := Tryz.zeroValue0
  t3 := Tryz.underlying3
  a3 := Tryz.isAgg3
  z3 := Tryz.sizeOf3
  v3 := Tryz.zeroValue3
  t4 := Tryz.underlying4
  a4 := Tryz.isAgg4
  z4 := Tryz.sizeOf4
  v4 := Tryz.zeroValue4
  t5 := Tryz.underlying5
  a5 := Tryz.isAgg5
  z5 := Tryz.sizeOf5
  v5 := Tryz.zeroValue5
  t9 := Tryz.underlying9
  a9 := Tryz.isAgg9
  z9 := Tryz.sizeOf9
  v9 := Tryz.zeroValue9
  t20 := Tryz.underlying20
  a20 := Tryz.isAgg20
  z20 := Tryz.sizeOf20
  v20 := Tryz.zeroValue20
  t37 := Tryz.underlying63
  a37 := Tryz.isAgg63
  z37 := Tryz.sizeOf63
  v37 := Tryz.zeroValue63
  t46 := Tryz.underlying168
  a46 := Tryz.isAgg168
  z46 := Tryz.sizeOf168
  v46 := Tryz.zeroValue168
  t51 := Tryz.underlying181
  a51 := Tryz.isAgg181
  z51 := Tryz.sizeOf181
  v51 := Tryz.zeroValue181
  t53 := Tryz.underlying91
  a53 := Tryz.isAgg91
  z53 := Tryz.sizeOf91
  v53 := Tryz.zeroValue91
  t70 := Tryz.underlying64
  a70 := Tryz.isAgg64
  z70 := Tryz.sizeOf64
  v70 := Tryz.zeroValue64
  t72 := Tryz.underlying66
  a72 := Tryz.isAgg66
  z72 := Tryz.sizeOf66
  v72 := Tryz.zeroValue66
  t75 := Tryz.underlying69
  a75 := Tryz.isAgg69
  z75 := Tryz.sizeOf69
  v75 := Tryz.zeroValue69
  t76 := Tryz.underlying70
  a76 := Tryz.isAgg70
  z76 := Tryz.sizeOf70
  v76 := Tryz.zeroValue70
  t109 := Tryz.underlying173
  a109 := Tryz.isAgg173
  z109 := Tryz.sizeOf173
  v109 := Tryz.zeroValue173
  t127 := Tryz.underlying89
  a127 := Tryz.isAgg89
  z127 := Tryz.sizeOf89
  v127 := Tryz.zeroValue89
  t146 := Tryz.underlying182
  a146 := Tryz.isAgg182
  z146 := Tryz.sizeOf182
  v146 := Tryz.zeroValue182
  t148 := Tryz.underlying186
  a148 := Tryz.isAgg186
  z148 := Tryz.sizeOf186
  v148 := Tryz.zeroValue186
  t164 := Tryz.underlying138
  a164 := Tryz.isAgg138
  z164 := Tryz.sizeOf138
  v164 := Tryz.zeroValue138 }
theorem extraRp : Builder.Extra Tryz.prog rpren := {
  sizeBuilder := by kernel_rfl
  liesBuilder := by kernel_rfl
  t5 := Tryz.underlying5
  a5 := Tryz.isAgg5
  z5 := Tryz.sizeOf5
  v5 := Tryz.zeroValue5
  infoByte := by kernel_rfl
  cellsByte := by kernel_rfl
  sizeByte := by kernel_rfl
  neB5 := by decide }

/-- A variable that holds an error, or none. -/
def ErrAt (g : Nat) (w : World) : Prop := ∃ ev, w.cell? ⟨g, 0, none⟩ = some ev ∧ (ev = .nilIface ∨ ∃ te pe, ev = .iface te pe)
theorem ErrAt.below {g : Nat} {w w' : World} (h : ErrAt g w) (hb : Below w.heap.size w w') : ErrAt g w' := by
  obtain ⟨ev, h1, h2⟩ := h
  exact ⟨ev, (hb.cell (World.block_lt_of_cell? _ _ h1)).trans h1, h2⟩
/-- The library's two errors. -/
def Errs (w : World) : Prop := ErrAt 6 w ∧ ErrAt 7 w
theorem Errs.below {w w' : World} (h : Errs w) (hb : Below w.heap.size w w') : Errs w' := ⟨h.1.below hb, h.2.below hb⟩

theorem atoi_ok (ds : List UInt8) (n : Int) (w : World) (hl : ds.length ≤ 1000000) (h : Lib.atoiAll ds = .ok n) :
    Calls Tryz.prog 197 #[.string (txt ds)] w fun e w' => e = .returned (.tuple #[.int .i64 n, .nilIface]) ∧ Below w.heap.size w w' := by
  refine (Any.strconv_Atoi_ok laysC172 (txt ds) (by rw [txt_size]; omega) n h w).mono ?_
  rintro e w' ⟨rfl, rfl | ⟨t, rfl⟩⟩
  · exact ⟨rfl, Below.refl _ _⟩
  · exact ⟨rfl, Lib.bytesWorld_below _ _ _⟩
theorem atoi_empty (w : World) (hT : Errs w) :
    Calls Tryz.prog 197 #[.string (txt [])] w fun e w' => ∃ N, e = .returned (.tuple #[.int .i64 0, .iface 196 (.pointer (some ⟨N, 0, none⟩))]) ∧ Below w.heap.size w w' := by
  obtain ⟨ev, h1, h2⟩ := hT.1
  refine (Any.strconv_Atoi_syntax laysC172 (txt []) (by decide) rfl ev w h1 h2).mono ?_
  rintro e w' ⟨N, rfl, _, _, hb⟩
  exact ⟨N, rfl, hb⟩
theorem atoi_range (ds : List UInt8) (w : World) (hl : ds.length ≤ 1000000) (h : Lib.atoiAll ds = .range) (hs : Lib.atoiSat ds = 9223372036854775807) (hT : Errs w) :
    Calls Tryz.prog 197 #[.string (txt ds)] w fun e w' => ∃ N, e = .returned (.tuple #[.int .i64 9223372036854775807, .iface 196 (.pointer (some ⟨N, 0, none⟩))]) ∧ Below w.heap.size w w' := by
  obtain ⟨ev, h1, h2⟩ := hT.2
  refine (Any.strconv_Atoi_range laysC172 (txt ds) (by rw [txt_size]; omega) h ev w h1 h2).mono ?_
  rintro e w' ⟨N, rfl, _, _, hb⟩
  exact ⟨N, by rw [show (txt ds).data.toList = ds from rfl, hs]; rfl, hb⟩
theorem itoa_any (n : Nat) (w : World) (hn : n ≤ 1000000) (hT : Tens w) :
    Calls Tryz.prog 190 #[.int .i64 n] w fun e w' => e = .returned (.string (txt (decD n))) ∧ Below w.heap.size w w' := by
  refine (Any.strconv_Itoa laysM171 (n : Int) (by omega) (by omega) w hT).mono ?_
  rintro e w' ⟨rfl, k, os, rfl⟩
  rw [Lib.itoa_nonneg, decDigits_eq]
  exact ⟨rfl, Lib.below_grow _ _ (Nat.le_refl _) k os⟩
theorem repeat_noughts (c : Nat) (w : World) (hc : c ≤ 1000000) :
    Calls Tryz.prog 187 #[.string ⟨#[48]⟩, .int .i64 c] w fun e w' => e = .returned (.string (txt (List.replicate c 48))) ∧ Below w.heap.size w w' := by
  refine (Any.strings_Repeat lays105 extraRp ⟨#[48]⟩ c w (by omega) (by show 1 * c ≤ _; omega)).mono ?_
  rintro e w' ⟨rfl, hb⟩
  refine ⟨?_, hb⟩
  have : ∀ c, Lib.repeatL [48] c = List.replicate c (48 : UInt8) := by
    intro c
    induction c with
    | zero => rfl
    | succ c ih =>
      show [48] ++ Lib.repeatL [48] c = _
      rw [ih]; rfl
  show Ending.returned (.string ⟨(Lib.repeatL [48] c).toArray⟩) = _
  rw [this]; rfl

end Go.Proofs.YtpkpkpiphgjbaaaGreatDoor

namespace Go.Proofs.YtpkpkpiphgjbaaaGreatDoor
open Go.RowKit
set_option maxRecDepth 100000

/-- The signs of a text. -/
def SignsOf (g : ByteArray) (p : UInt8 → Bool) : Prop := ∀ c, (p c = true → 0 ≤ Lib.indexByte g.data.toList c) ∧ (p c = false → Lib.indexByte g.data.toList c < 0)
theorem signs_one {d : UInt8} {p : UInt8 → Bool} (h : ∀ c, p c = true ↔ c = d) : SignsOf ⟨#[d]⟩ p := by
  intro c
  have e : Lib.indexByte [d] c = if d == c then 0 else -1 := by
    unfold Lib.indexByte
    split <;> rfl
  show (_ → 0 ≤ Lib.indexByte [d] c) ∧ (_ → Lib.indexByte [d] c < 0)
  rw [e]
  constructor
  · intro g
    obtain rfl := (h c).1 g
    simp
  · intro g
    have : ¬ c = d := fun x => by rw [(h c).2 x] at g; cases g
    have : (d == c) = false := by simp; exact fun x => this x.symm
    rw [this]; decide
theorem signs_sep : SignsOf ⟨#[84, 32]⟩ isSep := by
  intro c
  have e : Lib.indexByte [84, 32] c = if (84 : UInt8) == c then 0 else if (32 : UInt8) == c then 1 else -1 := by
    unfold Lib.indexByte Lib.indexByte
    cases (84 : UInt8) == c <;> cases (32 : UInt8) == c <;> rfl
  show (_ → 0 ≤ Lib.indexByte [84, 32] c) ∧ (_ → Lib.indexByte [84, 32] c < 0)
  rw [e]
  unfold isSep
  rw [show (c == 84) = ((84 : UInt8) == c) from BEq.comm, show (c == 32) = ((32 : UInt8) == c) from BEq.comm]
  cases (84 : UInt8) == c <;> cases (32 : UInt8) == c <;> simp
theorem signs_hy : SignsOf ⟨#[45]⟩ isHy := signs_one isHy_iff
theorem signs_col : SignsOf ⟨#[58]⟩ isCol := signs_one isCol_iff
theorem signs_pt : SignsOf ⟨#[46]⟩ isPt := signs_one isPt_iff
theorem signs_W : SignsOf ⟨#[87]⟩ isW := signs_one isW_iff

set_option maxHeartbeats 1000000 in
theorem next_no (w0 : World) (R : Nat) (l : List UInt8) (b : Bool) (g : ByteArray) (p : UInt8 → Bool) (w : World) (h : Rd w0 w R l b) (hl : l.length ≤ 1000000) (hp : SignsOf g p) (hn : signP p l = none) :
    Calls Tryz.prog 160 #[.pointer (some ⟨R, 0, none⟩), .string g] w fun e w' => e = .returned (.bool false) ∧ w' = w := by
  cases l with
  | nil =>
    have c0 : w.cell? ⟨R, 0, none⟩ = some (.string ⟨#[]⟩) := h.cell0
    clear hp hn h
    go_enter Tryz.func160, Tryz.ntmps160
    go_wp2_with fail
    go_ret
    exact ⟨rfl, rfl⟩
  | cons c r =>
    obtain ⟨s, hse⟩ : ∃ s : ByteArray, c :: r = s.data.toList := ⟨txt (c :: r), rfl⟩
    have hs1 : s.size = r.length + 1 := by
      have := congrArg List.length hse
      simpa using this.symm
    have hs : 0 < s.size := by omega
    have hs2 : s.size ≤ 1000000 := by rw [hs1]; exact hl
    have hc : c = s[0] := by
      have : s[0] = s.data.toList[0]'(by simpa using hs) := by simp; rfl
      rw [this]; simp [← hse]
    rw [hse] at h
    have c0 : w.cell? ⟨R, 0, none⟩ = some (.string s) := h.cell0
    have hpc : p s[0] = false := by
      rw [← hc]
      cases e : p c with
      | false => rfl
      | true => rw [sign_cons, e] at hn; cases hn
    have hi := (hp s[0]).2 hpc
    have hne : ¬ s.toList = [] := by rw [ByteArray.toList_eq, ← hse]; simp
    have hne2 : s.toList.isEmpty = false := by rw [ByteArray.toList_eq, ← hse]; rfl
    have HI := hide (fun w => indexByte_is g s[0] w)
    generalize Lib.indexByte g.data.toList s[0] = x at hi HI
    clear hp hn h hse hc hpc hs1 hl
    go_enter Tryz.func160, Tryz.ntmps160
    go_wp2_with fail
    refine (HI.out _).mono ?_
    rintro e v ⟨rfl, rfl⟩
    go_wp2_with fail
    go_ret
    exact ⟨rfl, rfl⟩

set_option maxHeartbeats 1000000 in
theorem next_yes (w0 : World) (R : Nat) (l k : List UInt8) (b : Bool) (g : ByteArray) (p : UInt8 → Bool) (w : World) (h : Rd w0 w R l b) (hl : l.length ≤ 1000000) (hp : SignsOf g p) (hn : signP p l = some (0, k)) :
    Calls Tryz.prog 160 #[.pointer (some ⟨R, 0, none⟩), .string g] w fun e w' => e = .returned (.bool true) ∧ Rd w0 w' R k b := by
  cases l with
  | nil => cases hn
  | cons c r =>
    obtain ⟨s, hse⟩ : ∃ s : ByteArray, c :: r = s.data.toList := ⟨txt (c :: r), rfl⟩
    have hs1 : s.size = r.length + 1 := by
      have := congrArg List.length hse
      simpa using this.symm
    have hs : 0 < s.size := by omega
    have hs2 : s.size ≤ 1000000 := by rw [hs1]; exact hl
    have hc : c = s[0] := by
      have : s[0] = s.data.toList[0]'(by simpa using hs) := by simp; rfl
      rw [this]; simp [← hse]
    have hpc : p c = true ∧ r = k := by
      rw [sign_cons] at hn
      split at hn
      · rename_i e; cases hn; exact ⟨e, rfl⟩
      · cases hn
    obtain ⟨hpc, rfl⟩ := hpc
    rw [hc] at hpc
    have hi := (hp s[0]).1 hpc
    have hne : ¬ s.toList = [] := by rw [ByteArray.toList_eq, ← hse]; simp
    have hne2 : s.toList.isEmpty = false := by rw [ByteArray.toList_eq, ← hse]; rfl
    have HI := hide (fun w => indexByte_is g s[0] w)
    have hdr : r = s.data.toList.drop 1 := by rw [← hse]; rfl
    rw [hse] at h
    have c0 : w.cell? ⟨R, 0, none⟩ = some (.string s) := h.cell0
    have f0 := h.frozen 0
    have E := hide (show Rd w0 (w.setCell ⟨R, 0, none⟩ (.string (s.extract 1 s.size))) R r b by
      rw [txt_post, hdr]; exact h.set0 _)
    generalize Lib.indexByte g.data.toList s[0] = x at hi HI
    clear hp hn h hse hc hpc hs1 hdr hl
    go_enter Tryz.func160, Tryz.ntmps160
    go_wp2_with fail
    refine (HI.out _).mono ?_
    rintro e v ⟨rfl, rfl⟩
    go_wp2_with fail
    go_ret
    exact ⟨rfl, E.out⟩

theorem sign_len {p : UInt8 → Bool} {l k : List UInt8} {v : Int} (h : signP p l = some (v, k)) : k.length ≤ l.length := by
  cases l with
  | nil => cases h
  | cons c r =>
    rw [sign_cons] at h
    split at h
    · cases h; simp
    · cases h

set_option maxHeartbeats 1000000 in
theorem sign_any (w0 : World) (R : Nat) (l : List UInt8) (b : Bool) (g : ByteArray) (p : UInt8 → Bool) (w : World) (h : Rd w0 w R l b) (hl : l.length ≤ 1000000) (hp : SignsOf g p) :
    Calls Tryz.prog 153 #[.pointer (some ⟨R, 0, none⟩), .string g] w fun e w' => ∃ k b', e = .returned (.tuple #[]) ∧ Rd w0 w' R k b' ∧ k.length ≤ 1000000 ∧ Tell b (signP p l) 0 k b' := by
  cases hn : signP p l with
  | none =>
    have HN := hide (next_no w0 R l b g p w h hl hp hn)
    have HM := hide (must_any w0 R l b false w h)
    clear hp hn h
    go_enter Tryz.func153, Tryz.ntmps153
    go_wp2_with fail
    refine HN.out.mono ?_
    rintro e v ⟨rfl, rfl⟩
    go_wp2_with fail
    refine HM.out.mono ?_
    rintro e v ⟨rfl, h1⟩
    go_wp2_with fail
    go_end0
    exact ⟨l, _, rfl, h1, hl, .inr ⟨by simp, .inr rfl⟩⟩
  | some x =>
    obtain ⟨v, k⟩ := x
    have hv : v = 0 := by
      cases l with
      | nil => cases hn
      | cons c r =>
        rw [sign_cons] at hn
        split at hn
        · cases hn; rfl
        · cases hn
    subst hv
    have HN := hide (next_yes w0 R l k b g p w h hl hp hn)
    have hk : k.length ≤ 1000000 := Nat.le_trans (sign_len hn) hl
    clear hp hn h
    go_enter Tryz.func153, Tryz.ntmps153
    go_wp2_with fail
    refine HN.out.mono ?_
    rintro e v ⟨rfl, h1⟩
    go_wp2_with fail
    refine (must_any w0 R k b true v h1).mono ?_
    rintro e v2 ⟨rfl, h2⟩
    go_wp2_with fail
    go_end0
    refine ⟨k, b, rfl, by simpa using h2, hk, Tell.pure⟩

end Go.Proofs.YtpkpkpiphgjbaaaGreatDoor

namespace Go.Proofs.YtpkpkpiphgjbaaaGreatDoor
open Go.RowKit
set_option maxRecDepth 100000

/-- What 'value' tells. -/
def Valued (b : Bool) (ds : List UInt8) (v : Int) (b' : Bool) : Prop := (valV ds = some v ∧ b' = b) ∨ (valV ds = none ∧ b' = true ∧ ((ds = [] ∧ v = 0) ∨ (¬ ds = [] ∧ v = 9223372036854775807)))
theorem Valued.bounds {b b' : Bool} {ds : List UInt8} {v : Int} (h : Valued b ds v b') : 0 ≤ v ∧ v ≤ 9223372036854775807 := by
  rcases h with ⟨h, _⟩ | ⟨_, _, h⟩
  · unfold valV at h
    split at h
    · rename_i g
      have := g.2
      unfold maxI at this
      cases h; omega
    · cases h
  · omega
theorem Valued.small {b b' : Bool} {ds : List UInt8} {v : Int} (h : Valued b ds v b') (hd : ∀ c ∈ ds, isDg c = true) {k : Nat} (hk : ds.length ≤ k) (hk2 : k ≤ 3) : v < 10 ^ k := by
  have h1 := natOf_lt ds hd
  have h2 : (10 : Nat) ^ ds.length ≤ 10 ^ k := Nat.pow_le_pow_right (by decide) hk
  have h3 : (10 : Nat) ^ k ≤ 10 ^ 3 := Nat.pow_le_pow_right (by decide) hk2
  have h4 : ((10 ^ k : Nat) : Int) = (10 : Int) ^ k := by push_cast; rfl
  rw [← h4]
  rcases h with ⟨h, _⟩ | ⟨h, _, h5⟩
  · unfold valV at h
    split at h
    · cases h; omega
    · cases h
  · rcases h5 with ⟨h5, h6⟩ | ⟨h5, h6⟩
    · have : 0 < 10 ^ k := Nat.pow_pos (by decide)
      omega
    · exfalso
      unfold valV maxI at h
      rw [if_pos ⟨h5, by omega⟩] at h
      cases h

set_option maxHeartbeats 1000000 in
set_option maxRecDepth 100000 in
theorem value_any (w0 : World) (R : Nat) (l ds : List UInt8) (b : Bool) (w : World) (h : Rd w0 w R l b) (hd : ∀ c ∈ ds, isDg c = true) (hl : ds.length ≤ 1000000) (hT : Errs w0) :
    Calls Tryz.prog 181 #[.pointer (some ⟨R, 0, none⟩), .string (txt ds)] w fun e w' => ∃ v b', e = .returned (.int .i64 v) ∧ Rd w0 w' R l b' ∧ Hid (Valued b ds v b') := by
  have hT' := hT.below h.below
  have MU := hide (fun (c : Bool) (w' : World) (hb : Below w.heap.size w w') => must_any w0 R l b c w' (h.pass hb))
  rcases atoi_digits hd with ⟨e1, e3⟩ | ⟨e1, e2, e3⟩ | ⟨e1, e2, e3⟩
  · have V : Hid (Valued b ds 0 true) := .inr ⟨e3, rfl, .inl ⟨e1, rfl⟩⟩
    subst e1
    have HA := hide (atoi_empty w hT')
    clear e3 h hT hT' hd
    go_enter Tryz.func181, Tryz.ntmps181
    go_wp2_with fail
    refine HA.out.mono ?_
    rintro e v ⟨N, rfl, hb⟩
    go_wp2_with fail
    refine (MU.out false v hb).mono ?_
    rintro e v2 ⟨rfl, h2⟩
    go_wp2_with fail
    go_ret
    exact ⟨_, _, rfl, h2, by simpa using V⟩
  · have HA := hide (atoi_ok ds _ w hl e1)
    have V : Hid (Valued b ds (natOf ds : Int) b) := .inl ⟨e3, rfl⟩
    unfold maxI at e2
    have n1 : (0 : Int) ≤ (natOf ds : Int) := by omega
    have n2 : (natOf ds : Int) ≤ 9223372036854775807 := by omega
    clear e1 e2 e3 h hT hT' hd
    generalize (natOf ds : Int) = x at *
    go_enter Tryz.func181, Tryz.ntmps181
    go_wp2_with fail
    refine HA.out.mono ?_
    rintro e v ⟨rfl, hb⟩
    go_wp2_with fail
    refine (MU.out true v hb).mono ?_
    rintro e v2 ⟨rfl, h2⟩
    go_wp2_with fail
    go_ret
    exact ⟨_, _, rfl, h2, by simpa using V⟩
  · have hne : ¬ ds = [] := fun x => by rw [x] at e1; cases e1
    have HA := hide (atoi_range ds w hl e1 e2 hT')
    have V : Hid (Valued b ds 9223372036854775807 true) := .inr ⟨e3, rfl, .inr ⟨hne, rfl⟩⟩
    clear e1 e2 e3 h hT hT' hd hne
    go_enter Tryz.func181, Tryz.ntmps181
    go_wp2_with fail
    refine HA.out.mono ?_
    rintro e v ⟨N, rfl, hb⟩
    go_wp2_with fail
    refine (MU.out false v hb).mono ?_
    rintro e v2 ⟨rfl, h2⟩
    go_wp2_with fail
    go_ret
    exact ⟨_, _, rfl, h2, by simpa using V⟩

theorem txt_join (l k : List UInt8) : txt (l ++ k) = txt l ++ txt k := by
  apply ByteArray.ext
  rw [ByteArray.data_append]
  show (l ++ k).toArray = l.toArray ++ k.toArray
  simp
theorem digs_all (l : List UInt8) : digsOf l.length l = l.takeWhile isDg := by unfold digsOf; rw [List.take_length]
theorem drop_digs (l : List UInt8) : l.drop (l.takeWhile isDg).length = l.dropWhile isDg := by
  have := List.takeWhile_append_dropWhile (p := isDg) (l := l)
  have e := congrArg (List.drop (l.takeWhile isDg).length) this
  rw [List.drop_left] at e
  exact e.symm
theorem year_tell {l : List UInt8} {b b' : Bool} {v : Int} {c : Bool} (hc : c = decide (4 ≤ (l.takeWhile isDg).length)) (h : Valued (b || !c) (l.takeWhile isDg) v b') : Tell b (yrP l) v (l.dropWhile isDg) b' := by
  unfold yrP
  subst hc
  by_cases g : 4 ≤ (l.takeWhile isDg).length
  · rw [decide_eq_true g] at h
    simp only [Bool.not_true, Bool.or_false] at h
    rcases h with ⟨h1, h2⟩ | ⟨h1, h2, _⟩
    · unfold valV at h1
      split at h1
      · rename_i x
        cases h1
        rw [if_pos ⟨g, x.2⟩, h2]; exact Tell.pure
      · cases h1
    · unfold valV at h1
      split at h1
      · cases h1
      · rename_i x
        rw [if_neg (fun y => x ⟨fun z => (by rw [z] at g; simp at g), y.2⟩)]
        exact .inr ⟨h2, .inr rfl⟩
  · rw [decide_eq_false g] at h
    rw [if_neg (fun y => g y.1)]
    refine .inr ⟨?_, .inr rfl⟩
    rcases h with ⟨_, h2⟩ | ⟨_, h2, _⟩
    · rw [h2]; simp
    · exact h2
theorem two_tell {l : List UInt8} {b b' : Bool} {v : Int} {c : Bool} (hc : c = decide ((digsOf 2 l).length = 2)) (h : Valued (b || !c) (digsOf 2 l) v b') : Tell b (twoP l) v (l.drop (digsOf 2 l).length) b' := by
  unfold twoP
  subst hc
  by_cases g : (digsOf 2 l).length = 2
  · rw [decide_eq_true g] at h
    simp only [Bool.not_true, Bool.or_false] at h
    rcases h with ⟨h1, h2⟩ | ⟨h1, h2, _⟩
    · unfold valV at h1
      split at h1
      · cases h1
        rw [if_pos g, h2]; exact Tell.pure
      · cases h1
    · exfalso
      have := natOf_lt _ (digs_dg 2 l)
      rw [g] at this
      unfold valV maxI at h1
      rw [if_pos ⟨fun z => (by rw [z] at g; cases g), by omega⟩] at h1
      cases h1
  · rw [decide_eq_false g] at h
    rw [if_neg g]
    refine .inr ⟨?_, .inr rfl⟩
    rcases h with ⟨_, h2⟩ | ⟨_, h2, _⟩
    · rw [h2]; simp
    · exact h2

set_option maxHeartbeats 1000000 in
set_option maxRecDepth 100000 in
theorem rdYear_any (w0 : World) (R : Nat) (l : List UInt8) (b : Bool) (w : World) (h : Rd w0 w R l b) (hl : l.length ≤ 1000000) (hT : Errs w0) :
    Calls Tryz.prog 152 #[.pointer (some ⟨R, 0, none⟩)] w fun e w' => ∃ v k b', e = .returned (.int .i64 v) ∧ Rd w0 w' R k b' ∧ k.length ≤ 1000000 ∧ 0 ≤ v ∧ v ≤ 9223372036854775807 ∧ Hid (Tell b (yrP l) v k b') := by
  have c0 := h.cell0
  have HD := hide (digits_any w0 R l b l.length w h hl hl)
  rw [digs_all, drop_digs] at HD
  have hdg : ∀ c ∈ l.takeWhile isDg, isDg c = true := fun x hx => by
    have := List.all_takeWhile (p := isDg) (l := l)
    rw [List.all_eq_true] at this
    exact this x hx
  have hle := (List.takeWhile_sublist isDg (l := l)).length_le
  have hle2 := (List.dropWhile_sublist isDg (l := l)).length_le
  have Y := hide (fun (b' : Bool) (v : Int) (c : Bool) => year_tell (l := l) (b := b) (b' := b') (v := v) (c := c))
  have HM := hide (fun (c : Bool) (w : World) => must_any w0 R (l.dropWhile isDg) b c w)
  have HV := hide (fun (b : Bool) (w : World) h => value_any w0 R (l.dropWhile isDg) (l.takeWhile isDg) b w h hdg (by omega) hT)
  have hk : (l.dropWhile isDg).length ≤ 1000000 := by omega
  have hz : (txt l).size = l.length := rfl
  have hz2 : (txt (l.takeWhile isDg)).size = (l.takeWhile isDg).length := rfl
  clear h hdg hT
  generalize l.takeWhile isDg = ds at *
  generalize l.dropWhile isDg = k at *
  generalize yrP l = y at *
  by_cases g : 4 ≤ ds.length
  · have Y2 := hide (fun b' v => Y.out b' v true (decide_eq_true g).symm)
    have g' : (4 : Int) ≤ (ds.length : Int) := by omega
    clear Y g
    go_enter Tryz.func152, Tryz.ntmps152
    go_wp2_with fail
    refine HD.out.mono ?_
    rintro e v ⟨rfl, h1⟩
    go_wp2_with fail
    refine (HM.out true v h1).mono ?_
    rintro e v2 ⟨rfl, h2⟩
    go_wp2_with fail
    refine (HV.out _ v2 h2).mono ?_
    rintro e v3 ⟨x, b', rfl, h3, V⟩
    have hb := V.out.bounds
    go_wp2_with fail
    go_ret
    exact ⟨x, k, b', rfl, h3, hk, hb.1, hb.2, Y2.out b' x V⟩
  · have Y2 := hide (fun b' v => Y.out b' v false (decide_eq_false g).symm)
    have g' : (ds.length : Int) < 4 := by omega
    have gd : decide ((4 : Int) ≤ (ds.length : Int)) = false := decide_eq_false (by omega)
    clear Y g
    go_enter Tryz.func152, Tryz.ntmps152
    go_wp2_with fail
    refine HD.out.mono ?_
    rintro e v ⟨rfl, h1⟩
    go_wp2_with fail
    refine (HM.out false v h1).mono ?_
    rintro e v2 ⟨rfl, h2⟩
    go_wp2_with fail
    refine (HV.out _ v2 h2).mono ?_
    rintro e v3 ⟨x, b', rfl, h3, V⟩
    have hb := V.out.bounds
    go_wp2_with fail
    go_ret
    exact ⟨x, k, b', rfl, h3, hk, hb.1, hb.2, Y2.out b' x V⟩

set_option maxHeartbeats 1000000 in
set_option maxRecDepth 100000 in
theorem rdTwo_any (w0 : World) (R : Nat) (l : List UInt8) (b : Bool) (w : World) (h : Rd w0 w R l b) (hl : l.length ≤ 1000000) (hT : Errs w0) :
    Calls Tryz.prog 154 #[.pointer (some ⟨R, 0, none⟩)] w fun e w' => ∃ v k b', e = .returned (.int .i64 v) ∧ Rd w0 w' R k b' ∧ k.length ≤ 1000000 ∧ 0 ≤ v ∧ v < 100 ∧ Hid (Tell b (twoP l) v k b') := by
  have HD := hide (digits_any w0 R l b 2 w h (by omega) hl)
  have hdg := digs_dg 2 l
  have hle := digs_len 2 l
  have Y := hide (fun (b' : Bool) (v : Int) (c : Bool) => two_tell (l := l) (b := b) (b' := b') (v := v) (c := c))
  have hk : (l.drop (digsOf 2 l).length).length ≤ 1000000 := by rw [List.length_drop]; omega
  have HM := hide (fun (c : Bool) (w : World) => must_any w0 R (l.drop (digsOf 2 l).length) b c w)
  have HV := hide (fun (b : Bool) (w : World) h => value_any w0 R (l.drop (digsOf 2 l).length) (digsOf 2 l) b w h hdg (by omega) hT)
  have VS := hide (fun (b b' : Bool) (v : Int) (x : Valued b (digsOf 2 l) v b') => x.small hdg hle.1 (by decide))
  have hz2 : (txt (digsOf 2 l)).size = (digsOf 2 l).length := rfl
  clear h hdg hT hle
  generalize l.drop (digsOf 2 l).length = k at *
  generalize digsOf 2 l = ds at *
  generalize twoP l = y at *
  by_cases g : ds.length = 2
  · have Y2 := hide (fun b' v => Y.out b' v true (decide_eq_true g).symm)
    have g1 : ((ds.length : Int) == 2) = true := by rw [g]; rfl
    have g2 : (ds.length == 2) = true := by rw [g]; rfl
    clear Y
    go_enter Tryz.func154, Tryz.ntmps154
    go_wp2_with fail
    refine HD.out.mono ?_
    rintro e v ⟨rfl, h1⟩
    go_wp2_with fail
    refine (HM.out true v h1).mono ?_
    rintro e v2 ⟨rfl, h2⟩
    go_wp2_with fail
    refine (HV.out _ v2 h2).mono ?_
    rintro e v3 ⟨x, b', rfl, h3, V⟩
    have hb := V.out.bounds
    have hs := VS.out _ _ _ V.out
    go_wp2_with fail
    go_ret
    exact ⟨x, k, b', rfl, h3, hk, hb.1, hs, Y2.out b' x V⟩
  · have Y2 := hide (fun b' v => Y.out b' v false (decide_eq_false g).symm)
    have g1 : ((ds.length : Int) == 2) = false := by rw [beq_eq_false_iff_ne]; omega
    have g2 : (ds.length == 2) = false := by rw [beq_eq_false_iff_ne]; omega
    clear Y
    go_enter Tryz.func154, Tryz.ntmps154
    go_wp2_with fail
    refine HD.out.mono ?_
    rintro e v ⟨rfl, h1⟩
    go_wp2_with fail
    refine (HM.out false v h1).mono ?_
    rintro e v2 ⟨rfl, h2⟩
    go_wp2_with fail
    refine (HV.out _ v2 h2).mono ?_
    rintro e v3 ⟨x, b', rfl, h3, V⟩
    have hb := V.out.bounds
    have hs := VS.out _ _ _ V.out
    go_wp2_with fail
    go_ret
    exact ⟨x, k, b', rfl, h3, hk, hb.1, hs, Y2.out b' x V⟩

theorem below_tell {l k : List UInt8} {b b1 : Bool} {n : Nat} {v : Int} {c : Bool} (h : Tell b (twoP l) v k b1) (hc : c = decide (v < (n : Int))) : Tell b (belowP n l) v k (b1 || !c) := by
  unfold belowP
  refine Tell.bind (f := fun v k => if decide (v < (n : Int)) = true then some (v, k) else none) h ?_
  subst hc
  exact Tell.must

set_option maxHeartbeats 1000000 in
set_option maxRecDepth 100000 in
theorem below_any (w0 : World) (R : Nat) (l : List UInt8) (b : Bool) (n : Nat) (w : World) (h : Rd w0 w R l b) (hl : l.length ≤ 1000000) (hn : n ≤ 100) (hT : Errs w0) :
    Calls Tryz.prog 159 #[.pointer (some ⟨R, 0, none⟩), .int .i64 n] w fun e w' => ∃ v k b', e = .returned (.int .i64 v) ∧ Rd w0 w' R k b' ∧ k.length ≤ 1000000 ∧ 0 ≤ v ∧ v < 100 ∧ Hid (Tell b (belowP n l) v k b') := by
  have H2 := hide (rdTwo_any w0 R l b w h hl hT)
  have Y := hide (fun (k : List UInt8) (b1 : Bool) (v : Int) (c : Bool) => below_tell (l := l) (k := k) (b := b) (b1 := b1) (n := n) (v := v) (c := c))
  clear h hT
  generalize belowP n l = y at *
  have hn2 : (n : Int) ≤ 100 := by omega
  generalize (n : Int) = m at *
  go_enter Tryz.func159, Tryz.ntmps159
  go_wp2_with fail
  refine H2.out.mono ?_
  rintro e v ⟨x, k, b1, rfl, h1, hk, x1, x2, T⟩
  have HM := hide (fun (c : Bool) => must_any w0 R k b1 c v h1)
  clear h1
  by_cases g : x < m
  · have Y2 := hide (Y.out k b1 x true T (decide_eq_true g).symm)
    clear Y H2 T
    go_wp2_with fail
    refine (HM.out true).mono ?_
    rintro e v2 ⟨rfl, h2⟩
    go_wp2_with fail
    go_ret
    exact ⟨x, k, _, rfl, h2, hk, x1, x2, Y2⟩
  · have Y2 := hide (Y.out k b1 x false T (decide_eq_false g).symm)
    have g' : m ≤ x := by omega
    have gd : decide (x < m) = false := decide_eq_false g
    clear Y H2 T g
    go_wp2_with fail
    refine (HM.out false).mono ?_
    rintro e v2 ⟨rfl, h2⟩
    go_wp2_with fail
    go_ret
    exact ⟨x, k, _, rfl, h2, hk, x1, x2, Y2⟩

theorem th_tell {l : List UInt8} {b b' : Bool} {v : Int} {c : Bool} (hc : c = decide (digsOf 3 l ≠ [])) (h : Valued (b || !c) (digsOf 3 l ++ List.replicate (3 - (digsOf 3 l).length) 48) v b') : Tell b (thP l) v (l.drop (digsOf 3 l).length) b' := by
  have hle := digs_len 3 l
  have hdg := digs_dg 3 l
  have e : natOf (digsOf 3 l ++ List.replicate (3 - (digsOf 3 l).length) 48) = fracOf 3 (digsOf 3 l) := by
    have hx := frac_nat 3 0 (digsOf 3 l ++ List.replicate (3 - (digsOf 3 l).length) 48) (by rw [List.length_append, List.length_replicate]; omega)
    rw [fracOf_noughts, List.length_append, List.length_replicate, show 3 - ((digsOf 3 l).length + (3 - (digsOf 3 l).length)) = 0 by omega, Nat.pow_zero, Nat.mul_one, Nat.zero_mul, Nat.zero_add] at hx
    exact hx
  have hlt : fracOf 3 (digsOf 3 l) < 10 ^ 3 := fracOf_lt 3 _ hdg
  unfold thP
  subst hc
  by_cases g : digsOf 3 l ≠ []
  · rw [decide_eq_true g] at h
    simp only [Bool.not_true, Bool.or_false] at h
    have hv : valV (digsOf 3 l ++ List.replicate (3 - (digsOf 3 l).length) 48) = some (fracOf 3 (digsOf 3 l) : Int) := by
      unfold valV maxI
      rw [e, if_pos ⟨by simp [g], by omega⟩]
    rcases h with ⟨h1, h2⟩ | ⟨h1, _, _⟩
    · rw [hv] at h1
      cases h1
      rw [if_pos g, h2]; exact Tell.pure
    · rw [hv] at h1; cases h1
  · rw [decide_eq_false g] at h
    rw [if_neg g]
    refine .inr ⟨?_, .inr rfl⟩
    rcases h with ⟨_, h2⟩ | ⟨_, h2, _⟩
    · rw [h2]; simp
    · exact h2

set_option maxHeartbeats 1000000 in
set_option maxRecDepth 100000 in
theorem thousandths_any (w0 : World) (R : Nat) (l : List UInt8) (b : Bool) (w : World) (h : Rd w0 w R l b) (hl : l.length ≤ 1000000) (hT : Errs w0) :
    Calls Tryz.prog 161 #[.pointer (some ⟨R, 0, none⟩)] w fun e w' => ∃ v k b', e = .returned (.int .i64 v) ∧ Rd w0 w' R k b' ∧ k.length ≤ 1000000 ∧ 0 ≤ v ∧ v < 1000 ∧ Hid (Tell b (thP l) v k b') := by
  have HD := hide (digits_any w0 R l b 3 w h (by omega) hl)
  have hdg := digs_dg 3 l
  have hle := digs_len 3 l
  have Y := hide (fun (b' : Bool) (v : Int) (c : Bool) => th_tell (l := l) (b := b) (b' := b') (v := v) (c := c))
  have hk : (l.drop (digsOf 3 l).length).length ≤ 1000000 := by rw [List.length_drop]; omega
  have HM := hide (fun (c : Bool) (w : World) => must_any w0 R (l.drop (digsOf 3 l).length) b c w)
  have hdg2 : ∀ c ∈ digsOf 3 l ++ List.replicate (3 - (digsOf 3 l).length) 48, isDg c = true := by
    intro c hc
    rcases List.mem_append.1 hc with hc | hc
    · exact hdg c hc
    · rw [List.eq_of_mem_replicate hc]; decide
  have hl2 : (digsOf 3 l ++ List.replicate (3 - (digsOf 3 l).length) 48).length ≤ 3 := by rw [List.length_append, List.length_replicate]; omega
  have HV := hide (fun (b : Bool) (w : World) h => value_any w0 R (l.drop (digsOf 3 l).length) (digsOf 3 l ++ List.replicate (3 - (digsOf 3 l).length) 48) b w h hdg2 (by omega) hT)
  have VS := hide (fun (b b' : Bool) (v : Int) (x : Valued b (digsOf 3 l ++ List.replicate (3 - (digsOf 3 l).length) 48) v b') => x.small hdg2 hl2 (by decide))
  have HR := hide (fun w => repeat_noughts (3 - (digsOf 3 l).length) w (by omega))
  have hz1 : (txt (digsOf 3 l)).size = (digsOf 3 l).length := rfl
  have hz2 : (txt (List.replicate (3 - (digsOf 3 l).length) 48)).size = 3 - (digsOf 3 l).length := by rw [txt_size, List.length_replicate]
  have hj : Hid (txt (digsOf 3 l ++ List.replicate (3 - (digsOf 3 l).length) 48) = txt (digsOf 3 l) ++ txt (List.replicate (3 - (digsOf 3 l).length) 48)) := txt_join _ _
  have ha := fun w => run_string_add_sum (P := Tryz.prog) w (txt (digsOf 3 l)) (txt (List.replicate (3 - (digsOf 3 l).length) 48)) (by omega)
  have hsub : ((3 - (digsOf 3 l).length : Nat) : Int) = 3 - ((digsOf 3 l).length : Int) := by omega
  have hne1 : digsOf 3 l ≠ [] → ¬ (txt (digsOf 3 l)).toList = [] := fun x => by rw [ByteArray.toList_eq]; exact x
  have hne2 : digsOf 3 l ≠ [] → (txt (digsOf 3 l)).toList.isEmpty = false := fun x => by rw [ByteArray.toList_eq, txt_data]; simpa using x
  clear h hdg hdg2 hT hl2
  by_cases g : digsOf 3 l ≠ []
  · have Y2 := hide (fun b' v => Y.out b' v true (decide_eq_true g).symm)
    have g1 := hne1 g
    have g2 := hne2 g
    have g3 : (0 : Int) < ((digsOf 3 l).length : Int) := by have := List.length_pos_iff.2 g; omega
    clear Y g hne1 hne2
    rw [hj.out] at HV
    rw [hsub] at HR
    clear hj hsub
    generalize l.drop (digsOf 3 l).length = k at *
    generalize txt (List.replicate (3 - (digsOf 3 l).length) 48) = zs at *
    generalize digsOf 3 l = ds at *
    generalize thP l = y at *
    go_enter Tryz.func161, Tryz.ntmps161
    go_wp2_with fail
    refine HD.out.mono ?_
    rintro e v ⟨rfl, h1⟩
    go_wp2_with fail
    refine (HM.out true v h1).mono ?_
    rintro e v2 ⟨rfl, h2⟩
    go_wp2_with fail
    refine (HR.out _).mono ?_
    rintro e v3 ⟨rfl, hb⟩
    have h3 := h2.pass hb
    clear h1 h2 hb
    go_wp2_with fail
    refine (HV.out _ v3 h3).mono ?_
    rintro e v4 ⟨x, b', rfl, h4, V⟩
    have hb := V.out.bounds
    have hs := VS.out _ _ _ V.out
    go_wp2_with fail
    go_ret
    exact ⟨x, k, b', rfl, h4, hk, hb.1, hs, Y2.out b' x V⟩
  · have Y2 := hide (fun b' v => Y.out b' v false (decide_eq_false g).symm)
    have g1 : digsOf 3 l = [] := by simpa using g
    clear Y g hne1 hne2 hj ha hz1 hz2 hsub HR
    rw [g1] at HD HV VS Y2 hk HM
    clear g1
    have gd : (txt []).toList.isEmpty = true := by rw [ByteArray.toList_eq]; rfl
    have hz0 : (txt ([] : List UInt8)).size = 0 := rfl
    have ha : ∀ w, (Op.stringOp .add (txt []) (txt (List.replicate 3 48))).run Tryz.prog w = .ok (.string (txt [] ++ txt (List.replicate 3 48))) w := fun w => run_string_add_sum (P := Tryz.prog) w (txt []) (txt (List.replicate 3 48)) (by decide)
    have HR := hide (fun w => repeat_noughts 3 w (by omega))
    rw [show ([] ++ List.replicate (3 - ([] : List UInt8).length) 48 : List UInt8) = [] ++ List.replicate 3 48 from rfl, txt_join] at HV
    have hz3 : (txt (List.replicate 3 48)).size = 3 := rfl
    generalize txt (List.replicate 3 48) = zs at *
    generalize thP l = y at *
    go_enter Tryz.func161, Tryz.ntmps161
    go_wp2_with fail
    refine HD.out.mono ?_
    rintro e v ⟨rfl, h1⟩
    go_wp2_with fail
    refine (HM.out false v h1).mono ?_
    rintro e v2 ⟨rfl, h2⟩
    go_wp2_with fail
    refine (HR.out _).mono ?_
    rintro e v3 ⟨rfl, hb⟩
    have h3 := h2.pass hb
    clear h1 h2 hb
    go_wp2_with fail
    refine (HV.out _ v3 h3).mono ?_
    rintro e v4 ⟨x, b', rfl, h4, V⟩
    have hb := V.out.bounds
    have hs := VS.out _ _ _ V.out
    go_wp2_with fail
    go_ret
    exact ⟨x, _, b', rfl, h4, hk, hb.1, hs, Y2.out b' x V⟩

end Go.Proofs.YtpkpkpiphgjbaaaGreatDoor

namespace Go.Proofs.YtpkpkpiphgjbaaaGreatDoor
open Go.RowKit

theorem tab_int {P : Program} {w : World} {name : String} {g : Nat} {t e : TypeId} {n : Nat} {zs : List Int} {kd : IntKind} (hg : P.globalNamed name = some g) (hty : (P.globals[g]?).map (·.type) = some t)
    (ht : P.underlying t = some (.array n e)) (he : P.underlying e = some (.int kd)) (hce : P.cellsOf e = 1) (h : Lib.VarReads P w name (.agg (zs.map fun z => .lit (.int kd z)))) (k : Nat) (hk : k < n) :
    w.cell? ⟨g, k, none⟩ = some (.int kd (zs.getD k 0)) := by
  obtain ⟨g', t', cs, fuel, p, hg', hty', hvar, hd⟩ := h
  obtain rfl := Option.some.inj (hg.symm.trans hg')
  obtain rfl := Option.some.inj (hty.symm.trans hty')
  obtain ⟨fuel', d, q, hdi, hx⟩ := Lib.array_elem ht hd k hk
  rw [hce] at hx
  obtain ⟨z, hcs, hd', _⟩ := DataW.trod_int he hx
  have e1 : cs[k]? = some (.int kd z) := by
    have := congrArg (·[0]?) hcs
    simpa [List.getElem?_take, List.getElem?_drop] using this
  have e2 : zs[k]? = some z := by
    have e3 : d = .lit (.int kd z) := congrArg Prod.fst hd'
    rw [e3] at hdi
    simp only [List.getElem?_map, Option.map_eq_some_iff, DataW.lit.injEq, Lit.int.injEq, true_and] at hdi
    obtain ⟨l, h1, rfl⟩ := hdi
    exact h1
  rw [World.var?_cell hg hvar k, e1, List.getD, e2]
  rfl

/-- The program's table of lengths: of a year that is no leap year. -/
def Lens (w : World) : Prop := ∀ k : Nat, k < 12 → w.cell? ⟨2, k, none⟩ = some (.int .i64 (lenV 1 (k + 1)))
theorem Lens.below {w w' : World} (h : Lens w) (hb : Below w.heap.size w w') : Lens w' := by
  intro k hk
  have := h k hk
  exact (hb.cell (World.block_lt_of_cell? _ _ this)).trans this
theorem lens_eq : (Rows.laid_counterfoil_days_lengths : DataW Unit) = .agg (((List.range 12).map fun k : Nat => lenV 1 ((k : Int) + 1)).map fun z => .lit (.int .i64 z)) := by kernel_rfl
theorem lens_of {w : World} (h : Lib.VarReads Tryz.prog w "counterfoil/days.lengths" Rows.laid_counterfoil_days_lengths) : Lens w := by
  intro k hk
  rw [lens_eq] at h
  have := tab_int (P := Tryz.prog) (g := 2) (by kernel_rfl) (by kernel_rfl) Tryz.underlying161 Tryz.underlying3 (by kernel_rfl) h k hk
  rw [this]
  simp [List.getD, hk]

end Go.Proofs.YtpkpkpiphgjbaaaGreatDoor
