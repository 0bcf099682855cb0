/- Joined texts. MomRd2: The program's reader: 'digits'. Condition: texts as long as the law asks. MomLib: What strconv.Atoi, strconv.Itoa, strings.Repeat, strings.TrimRight and strings.IndexByte answer: the shelf's contracts, laid at this program. Conditions: the library's two errors of strconv hold some error or none; its table of powers of ten reads as its text lays it. MomRd3: The program's reader: 'next', 'sign'. Condition: texts as long as the law asks. MomRd4: The program's reader: 'value', 'year', 'two', 'below', 'thousandths'. Conditions: texts as long as the law asks; the library's errors of strconv hold some error or none. DayTabs: What the program's table of lengths holds, cell by cell, where it reads as its text lays it. No condition. -/
import Derived.Test.YtdjhbodbmhakgaaGreatDoorJst14
import Derived.Shelf.Strconv.AtoiAll
import Derived.Shelf.Strconv.Itoa3
import Derived.Lib.ItoaMem
import Derived.Lib.AppendIntMem
import Derived.Shelf.Strings.Repeat
import Derived.Shelf.Strings.Trim
import Derived.Shelf.Small.Strs
import Derived.Test.YtdjhbodbmhakgaaGreatDoorProg
import Derived.Test.YtdjhbodbmhakgaaGreatDoorJst13
import Derived.Test.YtdjhbodbmhakgaaGreatDoorJst12
import Derived.Test.YtdjhbodbmhakgaaGreatDoorJst6
import Derived.Lib.LaidU8
import Derived.Test.YtdjhbodbmhakgaaGreatDoorRows
import Derived.Test.YtdjhbodbmhakgaaGreatDoorJst1
namespace Go.Proofs.YtdjhbodbmhakgaaGreatDoor
open Go.RowKit
set_option maxRecDepth 100000

theorem all_takeDg {l : List UInt8} (h : ∀ c ∈ l, isDg c = true) : l.takeWhile isDg = l := by
  have := (takeWhile_all (k := []) h (fun _ _ e => by cases e)).1
  rw [List.append_nil] at this
  exact this
/-- The digits end at a place. -/
theorem digs_at {s : ByteArray} {m k : Nat} (hk : k ≤ s.size) (hm : k ≤ m) (h : ∀ c ∈ s.data.toList.take k, isDg c = true) (he : k = m ∨ k = s.size ∨ ∃ g : k < s.size, isDg s[k] = false) : digsOf m s.data.toList = s.data.toList.take k := by
  unfold digsOf
  have hl : s.data.toList.length = s.size := by simp
  rcases he with e | e | ⟨g, e⟩
  · subst e; exact all_takeDg h
  · subst e
    rw [List.take_of_length_le (show s.data.toList.length ≤ m by omega)]
    rw [List.take_of_length_le (show s.data.toList.length ≤ s.size by omega)] at h ⊢
    exact all_takeDg h
  · have e1 : s.data.toList = s.data.toList.take k ++ s[k] :: s.data.toList.drop (k + 1) := by
      have : s[k] = s.data.toList[k]'(by simpa using g) := by simp; rfl
      rw [this, ← List.drop_eq_getElem_cons]
      exact (List.take_append_drop k _).symm
    rcases Nat.lt_or_ge k m with g2 | g2
    · have e2 : s.data.toList.take m = s.data.toList.take k ++ s[k] :: (s.data.toList.drop (k + 1)).take (m - k - 1) := by
        have := congrArg (List.take m) e1
        rw [List.take_append, List.length_take, List.take_take, Nat.min_eq_right (by omega), Nat.min_eq_left (by omega)] at this
        rw [this]
        obtain ⟨j, rfl⟩ : ∃ j, m = k + 1 + j := ⟨m - k - 1, by omega⟩
        rw [show k + 1 + j - k = j + 1 by omega, show j + 1 - 1 = j by omega, List.take_succ_cons]
      rw [e2]
      exact (takeWhile_all h (fun c r' x => by cases x; exact e)).1
    · obtain rfl : k = m := by omega
      exact all_takeDg h
theorem txt_pre (s : ByteArray) (k : Nat) : s.extract 0 k = txt (s.data.toList.take k) := by
  apply ByteArray.ext
  rw [show (txt (s.data.toList.take k)).data = (s.data.toList.take k).toArray from rfl]
  apply Array.ext'
  simp
theorem txt_post (s : ByteArray) (k : Nat) : s.extract k s.size = txt (s.data.toList.drop k) := by
  apply ByteArray.ext
  rw [show (txt (s.data.toList.drop k)).data = (s.data.toList.drop k).toArray from rfl]
  apply Array.ext'
  have : (s.extract k s.size).data.toList = (s.data.toList.drop k).take (s.size - k) := by simp
  rw [this, List.take_of_length_le (by simp)]

set_option maxHeartbeats 1000000 in
theorem digits_any (w0 : World) (R : Nat) (l : List UInt8) (b : Bool) (m : Nat) (w : World) (h : Rd w0 w R l b) (hm : m ≤ 1000000) (hl : l.length ≤ 1000000) :
    Calls Tryz.prog 111 #[.pointer (some ⟨R, 0, none⟩), .int .i64 m] w fun e w' => e = .returned (.string (txt (digsOf m l))) ∧ Rd w0 w' R (l.drop (digsOf m l).length) b := by
  obtain ⟨s, rfl⟩ : ∃ s : ByteArray, l = s.data.toList := ⟨txt l, rfl⟩
  have hs : s.size ≤ 1000000 := by simpa using hl
  have f0 := h.frozen 0
  have c0 : w.cell? ⟨R, 0, none⟩ = some (.string s) := h.cell0
  have h0 := hide h
  clear h hl
  go_enter Tryz.func111, Tryz.ntmps111
  go_wp2_with fail
  go_loop [5] (fun i => ∃ k : Nat, k ≤ s.size ∧ k ≤ m ∧ i = .int .i64 k ∧ Hid (∀ c ∈ s.data.toList.take k, isDg c = true)) (fun i => s.size - (intOf i).toNat)
  case atStart => exact ⟨0, Nat.zero_le _, Nat.zero_le _, rfl, by intro c hc; simp at hc⟩
  case round =>
    obtain ⟨k, hk, hkm, rfl, hd⟩ := hrel
    have END : (k = m ∨ k = s.size ∨ ∃ g : k < s.size, isDg s[k] = false) → Hid (txt (digsOf m s.data.toList) = s.extract 0 k ∧ Rd w0 (w.setCell ⟨R, 0, none⟩ (.string (s.extract k s.size))) R (s.data.toList.drop (digsOf m s.data.toList).length) b) := by
      intro he
      have e := digs_at hk hkm hd.out he
      refine ⟨by rw [e, txt_pre], ?_⟩
      rw [e, txt_post, List.length_take, Nat.min_eq_left (by simpa using hk)]
      exact h0.out.set0 _
    by_cases h1 : k < m
    · by_cases h2 : k < s.size
      · have hI := isDg_iff s[k]
        have hN := isDg_not s[k]
        have NX : isDg s[k] = true → Hid (∀ c ∈ s.data.toList.take (k + 1), isDg c = true) := by
          intro g c hc
          have : s[k] = s.data.toList[k]'(by simpa using h2) := by simp; rfl
          rw [List.take_succ_eq_append_getElem (by simpa using h2), ← this] at hc
          rcases List.mem_append.1 hc with hc | hc
          · exact hd.out c hc
          · simp at hc; subst hc; exact g
        have i1 : (k : Int) < (m : Int) := by omega
        rcases (show (s[k].toNat : Int) < 48 ∨ (48 ≤ (s[k].toNat : Int) ∧ 57 < (s[k].toNat : Int)) ∨ (48 ≤ (s[k].toNat : Int) ∧ (s[k].toNat : Int) ≤ 57) by omega) with g1 | ⟨g1, g2⟩ | ⟨g1, g2⟩
        · have E := END (.inr (.inr ⟨h2, hN.2 (by omega)⟩))
          clear hI hN NX END hd
          go_wp2_with fail
          go_ret
          exact ⟨ret_str E.out.1.symm, E.out.2⟩
        · have E := END (.inr (.inr ⟨h2, hN.2 (by omega)⟩))
          clear hI hN NX END hd
          go_wp2_with fail
          go_ret
          exact ⟨ret_str E.out.1.symm, E.out.2⟩
        · have E := NX (hI.2 (by omega))
          clear hI hN NX END hd
          go_wp2_with fail
          go_round
          case rel => exact ⟨k + 1, by omega, by omega, by go_num, E⟩
          case measure => simp [intOf]; omega
      · have E := END (.inr (.inl (by omega)))
        have i1 : (k : Int) < (m : Int) := by omega
        have i2 : (s.size : Int) ≤ (k : Int) := by omega
        clear END hd
        go_wp2_with fail
        go_ret
        exact ⟨ret_str E.out.1.symm, E.out.2⟩
    · have E := END (.inl (by omega))
      have i1 : (m : Int) ≤ (k : Int) := by omega
      clear END hd
      go_wp2_with fail
      go_ret
      exact ⟨ret_str E.out.1.symm, E.out.2⟩

end Go.Proofs.YtdjhbodbmhakgaaGreatDoor

namespace Go.Proofs.YtdjhbodbmhakgaaGreatDoor
open Go.Shelf Go.RowKit
set_option maxRecDepth 100000

def atren : Go.Shelf.Ren := ⟨fun | 129 => 162 | 171 => 126 | 172 => 134 | 205 => 180 | 243 => 146 | 244 => 155 | 245 => 156 | 246 => 166 | 247 => 170 | 279 => 171 | 280 => 172 | 281 => 173 | 282 => 174 | 283 => 142 | 284 => 143 | 285 => 144 | 286 => 145 | 287 => 178 | 316 => 179 | 317 => 161 | 318 => 163 | 319 => 164 | 320 => 165 | 321 => 181 | 322 => 182 | 337 => 176 | 338 => 177 | n => n, fun | 0 => 0 | 2 => 2 | 3 => 3 | 4 => 4 | 5 => 5 | 9 => 9 | 20 => 20 | 21 => 21 | 37 => 93 | 46 => 148 | 51 => 162 | 53 => 82 | 72 => 111 | 75 => 113 | 76 => 115 | 80 => 119 | 85 => 175 | 127 => 138 | 143 => 194 | 145 => 196 | 167 => 174 | 168 => 177 | 171 => 154 | 173 => 157 | 175 => 186 | 210 => 189 | 212 => 168 | 213 => 169 | 232 => 191 | 233 => 192 | n => n, fun | 15 => 6 | 16 => 7 | 17 => 3 | 18 => 8 | 19 => 9 | n => n⟩
theorem laysC172 : Go.Proofs.LaysC.n172 Tryz.prog atren := {
  mixed := by kernel_rfl
  f129 := Tryz.func162.trans (congrArg some (by kernel_rfl))
  f171 := Tryz.func126.trans (congrArg some (by kernel_rfl))
  f172 := Tryz.func134.trans (congrArg some (by kernel_rfl))
  f205 := Tryz.func180.trans (congrArg some (by kernel_rfl))
  f243 := Tryz.func146.trans (congrArg some (by kernel_rfl))
  f244 := Tryz.func155.trans (congrArg some (by kernel_rfl))
  f245 := Tryz.func156.trans (congrArg some (by kernel_rfl))
  f246 := Tryz.func166.trans (congrArg some (by kernel_rfl))
  f247 := Tryz.func170.trans (congrArg some (by kernel_rfl))
  f279 := Tryz.func171.trans (congrArg some (by kernel_rfl))
  f280 := Tryz.func172.trans (congrArg some (by kernel_rfl))
  f281 := Tryz.func173.trans (congrArg some (by kernel_rfl))
  f282 := Tryz.func174.trans (congrArg some (by kernel_rfl))
  f283 := Tryz.func142.trans (congrArg some (by kernel_rfl))
  f284 := Tryz.func143.trans (congrArg some (by kernel_rfl))
  f285 := Tryz.func144.trans (congrArg some (by kernel_rfl))
  f286 := Tryz.func145.trans (congrArg some (by kernel_rfl))
  f287 := Tryz.func178.trans (congrArg some (by kernel_rfl))
  f316 := Tryz.func179.trans (congrArg some (by kernel_rfl))
  f317 := Tryz.func161.trans (congrArg some (by kernel_rfl))
  f318 := Tryz.func163.trans (congrArg some (by kernel_rfl))
  f319 := Tryz.func164.trans (congrArg some (by kernel_rfl))
  f320 := Tryz.func165.trans (congrArg some (by kernel_rfl))
  f321 := Tryz.func181.trans (congrArg some (by kernel_rfl))
  f322 := Tryz.func182.trans (congrArg some (by kernel_rfl))
  f337 := Tryz.func176.trans (congrArg some (by kernel_rfl))
  f338 := Tryz.func177.trans (congrArg some (by kernel_rfl))
  t0 := Tryz.underlying0
  a0 := Tryz.isAgg0
  z0 := Tryz.sizeOf0
  v0 := Tryz.zeroValue0
  t2 := Tryz.underlying2
  a2 := Tryz.isAgg2
  z2 := Tryz.sizeOf2
  v2 := Tryz.zeroValue2
  t3 := Tryz.underlying3
  a3 := Tryz.isAgg3
  z3 := Tryz.sizeOf3
  v3 := Tryz.zeroValue3
  t4 := Tryz.underlying4
  a4 := Tryz.isAgg4
  z4 := Tryz.sizeOf4
  v4 := Tryz.zeroValue4
  t5 := Tryz.underlying5
  a5 := Tryz.isAgg5
  z5 := Tryz.sizeOf5
  v5 := Tryz.zeroValue5
  t9 := Tryz.underlying9
  a9 := Tryz.isAgg9
  z9 := Tryz.sizeOf9
  v9 := Tryz.zeroValue9
  t20 := Tryz.underlying20
  a20 := Tryz.isAgg20
  z20 := Tryz.sizeOf20
  v20 := Tryz.zeroValue20
  t21 := Tryz.underlying21
  a21 := Tryz.isAgg21
  z21 := Tryz.sizeOf21
  v21 := Tryz.zeroValue21
  t37 := Tryz.underlying93
  a37 := Tryz.isAgg93
  z37 := Tryz.sizeOf93
  v37 := Tryz.zeroValue93
  t46 := Tryz.underlying148
  a46 := Tryz.isAgg148
  z46 := Tryz.sizeOf148
  v46 := Tryz.zeroValue148
  t51 := Tryz.underlying162
  a51 := Tryz.isAgg162
  z51 := Tryz.sizeOf162
  v51 := Tryz.zeroValue162
  t53 := Tryz.underlying82
  a53 := Tryz.isAgg82
  z53 := Tryz.sizeOf82
  v53 := Tryz.zeroValue82
  t75 := Tryz.underlying113
  a75 := Tryz.isAgg113
  z75 := Tryz.sizeOf113
  v75 := Tryz.zeroValue113
  t76 := Tryz.underlying115
  a76 := Tryz.isAgg115
  z76 := Tryz.sizeOf115
  v76 := Tryz.zeroValue115
  t85 := Tryz.underlying175
  a85 := Tryz.isAgg175
  z85 := Tryz.sizeOf175
  v85 := Tryz.zeroValue175
  t127 := Tryz.underlying138
  a127 := Tryz.isAgg138
  z127 := Tryz.sizeOf138
  v127 := Tryz.zeroValue138
  t143 := Tryz.underlying194
  a143 := Tryz.isAgg194
  z143 := Tryz.sizeOf194
  v143 := Tryz.zeroValue194
  t145 := Tryz.underlying196
  a145 := Tryz.isAgg196
  z145 := Tryz.sizeOf196
  v145 := Tryz.zeroValue196
  t167 := Tryz.underlying174
  a167 := Tryz.isAgg174
  z167 := Tryz.sizeOf174
  v167 := Tryz.zeroValue174
  t168 := Tryz.underlying177
  a168 := Tryz.isAgg177
  z168 := Tryz.sizeOf177
  v168 := Tryz.zeroValue177
  t171 := Tryz.underlying154
  a171 := Tryz.isAgg154
  z171 := Tryz.sizeOf154
  v171 := Tryz.zeroValue154
  t173 := Tryz.underlying157
  a173 := Tryz.isAgg157
  z173 := Tryz.sizeOf157
  v173 := Tryz.zeroValue157
  t175 := Tryz.underlying186
  a175 := Tryz.isAgg186
  z175 := Tryz.sizeOf186
  v175 := Tryz.zeroValue186
  t210 := Tryz.underlying189
  a210 := Tryz.isAgg189
  z210 := Tryz.sizeOf189
  v210 := Tryz.zeroValue189
  t212 := Tryz.underlying168
  a212 := Tryz.isAgg168
  z212 := Tryz.sizeOf168
  v212 := Tryz.zeroValue168
  t213 := Tryz.underlying169
  a213 := Tryz.isAgg169
  z213 := Tryz.sizeOf169
  t232 := Tryz.underlying191
  a232 := Tryz.isAgg191
  z232 := Tryz.sizeOf191
  v232 := Tryz.zeroValue191
  t233 := Tryz.underlying192
  a233 := Tryz.isAgg192
  z233 := Tryz.sizeOf192
  v233 := Tryz.zeroValue192
  g15 := by kernel_rfl
  g16 := by kernel_rfl
  g17 := by kernel_rfl
  g18 := by kernel_rfl
  g19 := by kernel_rfl
  t80 := Tryz.underlying119
  a80 := Tryz.isAgg119
  z80 := Tryz.sizeOf119
  v80 := Tryz.zeroValue119
  i0 := by kernel_rfl
  i2 := by kernel_rfl
  i3 := by kernel_rfl
  i4 := by kernel_rfl
  i5 := by kernel_rfl
  i9 := by kernel_rfl
  i20 := by kernel_rfl
  i21 := by kernel_rfl
  i37 := by kernel_rfl
  i46 := by kernel_rfl
  i51 := by kernel_rfl
  i53 := by kernel_rfl
  i75 := by kernel_rfl
  i76 := by kernel_rfl
  i80 := by kernel_rfl
  i85 := by kernel_rfl
  i127 := by kernel_rfl
  i143 := by kernel_rfl
  i145 := by kernel_rfl
  i167 := by kernel_rfl
  i168 := by kernel_rfl
  i171 := by kernel_rfl
  i173 := by kernel_rfl
  i175 := by kernel_rfl
  i210 := by kernel_rfl
  i212 := by kernel_rfl
  i232 := by kernel_rfl
  i233 := by kernel_rfl
  m15 := by kernel_rfl
  m16 := by kernel_rfl
  m17 := by kernel_rfl
  m18 := by kernel_rfl
  m19 := by kernel_rfl
  c0 := by kernel_rfl
  c2 := by kernel_rfl
  c3 := by kernel_rfl
  c4 := by kernel_rfl
  c5 := by kernel_rfl
  c9 := by kernel_rfl
  c20 := by kernel_rfl
  c21 := by kernel_rfl
  c37 := by kernel_rfl
  c46 := by kernel_rfl
  c51 := by kernel_rfl
  c53 := by kernel_rfl
  c75 := by kernel_rfl
  c76 := by kernel_rfl
  c80 := by kernel_rfl
  c85 := by kernel_rfl
  c127 := by kernel_rfl
  c143 := by kernel_rfl
  c145 := by kernel_rfl
  c167 := by kernel_rfl
  c168 := by kernel_rfl
  c171 := by kernel_rfl
  c173 := by kernel_rfl
  c175 := by kernel_rfl
  c210 := by kernel_rfl
  c212 := by kernel_rfl
  c213 := by kernel_rfl
  c232 := by kernel_rfl
  c233 := by kernel_rfl }
def itren : Go.Shelf.Ren := ⟨fun | 129 => 162 | 171 => 126 | 243 => 146 | 246 => 166 | 283 => 142 | 284 => 143 | 285 => 144 | 286 => 145 | 317 => 161 | 318 => 163 | 319 => 164 | 320 => 165 | 337 => 176 | 338 => 177 | n => n, fun | 0 => 0 | 2 => 2 | 3 => 3 | 4 => 4 | 5 => 5 | 9 => 9 | 20 => 20 | 37 => 93 | 46 => 148 | 51 => 162 | 53 => 82 | 72 => 111 | 171 => 154 | 173 => 157 | 212 => 168 | 213 => 169 | 232 => 191 | 233 => 192 | n => n, fun | 17 => 3 | 18 => 8 | 19 => 9 | n => n⟩
theorem laysM171 : Go.Proofs.LaysM.n171 Tryz.prog itren := {
  mixed := by kernel_rfl
  f129 := Tryz.func162.trans (congrArg some (by kernel_rfl))
  f171 := Tryz.func126.trans (congrArg some (by kernel_rfl))
  f243 := Tryz.func146.trans (congrArg some (by kernel_rfl))
  f246 := Tryz.func166.trans (congrArg some (by kernel_rfl))
  f283 := Tryz.func142.trans (congrArg some (by kernel_rfl))
  f284 := Tryz.func143.trans (congrArg some (by kernel_rfl))
  f285 := Tryz.func144.trans (congrArg some (by kernel_rfl))
  f286 := Tryz.func145.trans (congrArg some (by kernel_rfl))
  f317 := Tryz.func161.trans (congrArg some (by kernel_rfl))
  f318 := Tryz.func163.trans (congrArg some (by kernel_rfl))
  f319 := Tryz.func164.trans (congrArg some (by kernel_rfl))
  f320 := Tryz.func165.trans (congrArg some (by kernel_rfl))
  f337 := Tryz.func176.trans (congrArg some (by kernel_rfl))
  f338 := Tryz.func177.trans (congrArg some (by kernel_rfl))
  t0 := Tryz.underlying0
  a0 := Tryz.isAgg0
  z0 := Tryz.sizeOf0
  v0 := Tryz.zeroValue0
  t2 := Tryz.underlying2
  a2 := Tryz.isAgg2
  z2 := Tryz.sizeOf2
  v2 := Tryz.zeroValue2
  t3 := Tryz.underlying3
  a3 := Tryz.isAgg3
  z3 := Tryz.sizeOf3
  v3 := Tryz.zeroValue3
  t4 := Tryz.underlying4
  a4 := Tryz.isAgg4
  z4 := Tryz.sizeOf4
  v4 := Tryz.zeroValue4
  t5 := Tryz.underlying5
  a5 := Tryz.isAgg5
  z5 := Tryz.sizeOf5
  v5 := Tryz.zeroValue5
  t9 := Tryz.underlying9
  a9 := Tryz.isAgg9
  z9 := Tryz.sizeOf9
  v9 := Tryz.zeroValue9
  t20 := Tryz.underlying20
  a20 := Tryz.isAgg20
  z20 := Tryz.sizeOf20
  v20 := Tryz.zeroValue20
  t37 := Tryz.underlying93
  a37 := Tryz.isAgg93
  z37 := Tryz.sizeOf93
  v37 := Tryz.zeroValue93
  t46 := Tryz.underlying148
  a46 := Tryz.isAgg148
  z46 := Tryz.sizeOf148
  v46 := Tryz.zeroValue148
  t51 := Tryz.underlying162
  a51 := Tryz.isAgg162
  z51 := Tryz.sizeOf162
  v51 := Tryz.zeroValue162
  t53 := Tryz.underlying82
  a53 := Tryz.isAgg82
  z53 := Tryz.sizeOf82
  v53 := Tryz.zeroValue82
  t171 := Tryz.underlying154
  a171 := Tryz.isAgg154
  z171 := Tryz.sizeOf154
  v171 := Tryz.zeroValue154
  t173 := Tryz.underlying157
  a173 := Tryz.isAgg157
  z173 := Tryz.sizeOf157
  v173 := Tryz.zeroValue157
  t212 := Tryz.underlying168
  a212 := Tryz.isAgg168
  z212 := Tryz.sizeOf168
  v212 := Tryz.zeroValue168
  t213 := Tryz.underlying169
  a213 := Tryz.isAgg169
  z213 := Tryz.sizeOf169
  t232 := Tryz.underlying191
  a232 := Tryz.isAgg191
  z232 := Tryz.sizeOf191
  v232 := Tryz.zeroValue191
  t233 := Tryz.underlying192
  a233 := Tryz.isAgg192
  z233 := Tryz.sizeOf192
  v233 := Tryz.zeroValue192
  g17 := by kernel_rfl
  g18 := by kernel_rfl
  g19 := by kernel_rfl
  i0 := by kernel_rfl
  i2 := by kernel_rfl
  i3 := by kernel_rfl
  i4 := by kernel_rfl
  i5 := by kernel_rfl
  i9 := by kernel_rfl
  i20 := by kernel_rfl
  i37 := by kernel_rfl
  i46 := by kernel_rfl
  i51 := by kernel_rfl
  i53 := by kernel_rfl
  i171 := by kernel_rfl
  i173 := by kernel_rfl
  i212 := by kernel_rfl
  i232 := by kernel_rfl
  i233 := by kernel_rfl
  m17 := by kernel_rfl
  m18 := by kernel_rfl
  m19 := by kernel_rfl }
def rpren : Go.Shelf.Ren := ⟨fun | 99 => 137 | 105 => 119 | 165 => 138 | 166 => 92 | 169 => 95 | 170 => 139 | 206 => 129 | 212 => 136 | 240 => 123 | 241 => 160 | 263 => 158 | 264 => 159 | 276 => 141 | 277 => 175 | n => n, fun | 0 => 0 | 3 => 3 | 4 => 4 | 5 => 5 | 9 => 9 | 20 => 20 | 37 => 93 | 46 => 148 | 51 => 162 | 53 => 82 | 70 => 109 | 72 => 111 | 75 => 113 | 76 => 115 | 80 => 119 | 109 => 149 | 127 => 138 | 146 => 163 | 148 => 165 | 164 => 152 | n => n, fun  | n => n⟩
theorem lays105 : Go.Proofs.Lays.n105 Tryz.prog rpren := {
  mixed := by kernel_rfl
  f99 := Tryz.func137.trans (congrArg some (by kernel_rfl))
  f105 := Tryz.func119.trans (congrArg some (by kernel_rfl))
  f165 := Tryz.func138.trans (congrArg some (by kernel_rfl))
  f166 := Tryz.func92.trans (congrArg some (by kernel_rfl))
  f169 := Tryz.func95.trans (congrArg some (by kernel_rfl))
  f170 := Tryz.func139.trans (congrArg some (by kernel_rfl))
  f206 := Tryz.func129.trans (congrArg some (by kernel_rfl))
  f212 := Tryz.func136.trans (congrArg some (by kernel_rfl))
  f240 := Tryz.func123.trans (congrArg some (by kernel_rfl))
  f241 := Tryz.func160.trans (congrArg some (by kernel_rfl))
  f263 := Tryz.func158.trans (congrArg some (by kernel_rfl))
  f264 := Tryz.func159.trans (congrArg some (by kernel_rfl))
  f276 := Tryz.func141.trans (congrArg some (by kernel_rfl))
  f277 := Tryz.func175.trans (congrArg some (by kernel_rfl))
  t0 := Tryz.underlying0
  a0 := Tryz.isAgg0
  z0 := Tryz.sizeOf0
  v0 := Tryz.zeroValue0
  t3 := Tryz.underlying3
  a3 := Tryz.isAgg3
  z3 := Tryz.sizeOf3
  v3 := Tryz.zeroValue3
  t4 := Tryz.underlying4
  a4 := Tryz.isAgg4
  z4 := Tryz.sizeOf4
  v4 := Tryz.zeroValue4
  t5 := Tryz.underlying5
  a5 := Tryz.isAgg5
  z5 := Tryz.sizeOf5
  v5 := Tryz.zeroValue5
  t9 := Tryz.underlying9
  a9 := Tryz.isAgg9
  z9 := Tryz.sizeOf9
  v9 := Tryz.zeroValue9
  t20 := Tryz.underlying20
  a20 := Tryz.isAgg20
  z20 := Tryz.sizeOf20
  v20 := Tryz.zeroValue20
  t37 := Tryz.underlying93
  a37 := Tryz.isAgg93
  z37 := Tryz.sizeOf93
  v37 := Tryz.zeroValue93
  t46 := Tryz.underlying148
  a46 := Tryz.isAgg148
  z46 := Tryz.sizeOf148
  v46 := Tryz.zeroValue148
  t51 := Tryz.underlying162
  a51 := Tryz.isAgg162
  z51 := Tryz.sizeOf162
  v51 := Tryz.zeroValue162
  t53 := Tryz.underlying82
  a53 := Tryz.isAgg82
  z53 := Tryz.sizeOf82
  v53 := Tryz.zeroValue82
  t70 := Tryz.underlying109
  a70 := Tryz.isAgg109
  z70 := Tryz.sizeOf109
  v70 := Tryz.zeroValue109
  t72 := Tryz.underlying111
  a72 := Tryz.isAgg111
  z72 := Tryz.sizeOf111
  v72 := Tryz.zeroValue111
  t75 := Tryz.underlying113
  a75 := Tryz.isAgg113
  z75 := Tryz.sizeOf113
  v75 := Tryz.zeroValue113
  t76 := Tryz.underlying115
  a76 := Tryz.isAgg115
  z76 := Tryz.sizeOf115
  v76 := Tryz.zeroValue115
  t109 := Tryz.underlying149
  a109 := Tryz.isAgg149
  z109 := Tryz.sizeOf149
  v109 := Tryz.zeroValue149
  t127 := Tryz.underlying138
  a127 := Tryz.isAgg138
  z127 := Tryz.sizeOf138
  v127 := Tryz.zeroValue138
  t146 := Tryz.underlying163
  a146 := Tryz.isAgg163
  z146 := Tryz.sizeOf163
  v146 := Tryz.zeroValue163
  t148 := Tryz.underlying165
  a148 := Tryz.isAgg165
  z148 := Tryz.sizeOf165
  v148 := Tryz.zeroValue165
  t164 := Tryz.underlying152
  a164 := Tryz.isAgg152
  z164 := Tryz.sizeOf152
  v164 := Tryz.zeroValue152 }
def ibren : Go.Shelf.Ren := ⟨fun | 137 => 118 | 217 => 135 | 266 => 157 | n => n, fun | 3 => 3 | 5 => 5 | 9 => 9 | 72 => 111 | n => n, fun  | n => n⟩
theorem lays137 : Go.Proofs.Lays.n137 Tryz.prog ibren := {
  mixed := by kernel_rfl
  f137 := Tryz.func118.trans (congrArg some (by kernel_rfl))
  f217 := Tryz.func135.trans (congrArg some (by kernel_rfl))
  f266 := Tryz.func157.trans (congrArg some (by kernel_rfl))
  t3 := Tryz.underlying3
  a3 := Tryz.isAgg3
  z3 := Tryz.sizeOf3
  v3 := Tryz.zeroValue3
  t5 := Tryz.underlying5
  a5 := Tryz.isAgg5
  z5 := Tryz.sizeOf5
  v5 := Tryz.zeroValue5
  t9 := Tryz.underlying9
  a9 := Tryz.isAgg9
  z9 := Tryz.sizeOf9
  v9 := Tryz.zeroValue9 }
theorem extraRp : Builder.Extra Tryz.prog rpren := {
  sizeBuilder := by kernel_rfl
  liesBuilder := by kernel_rfl
  t5 := Tryz.underlying5
  a5 := Tryz.isAgg5
  z5 := Tryz.sizeOf5
  v5 := Tryz.zeroValue5
  infoByte := by kernel_rfl
  cellsByte := by kernel_rfl
  sizeByte := by kernel_rfl
  neB5 := by decide }

/-- A variable that holds an error, or none. -/
def ErrAt (g : Nat) (w : World) : Prop := ∃ ev, w.cell? ⟨g, 0, none⟩ = some ev ∧ (ev = .nilIface ∨ ∃ te pe, ev = .iface te pe)
theorem ErrAt.below {g : Nat} {w w' : World} (h : ErrAt g w) (hb : Below w.heap.size w w') : ErrAt g w' := by
  obtain ⟨ev, h1, h2⟩ := h
  exact ⟨ev, (hb.cell (World.block_lt_of_cell? _ _ h1)).trans h1, h2⟩
/-- The library's two errors. -/
def Errs (w : World) : Prop := ErrAt 6 w ∧ ErrAt 7 w
theorem Errs.below {w w' : World} (h : Errs w) (hb : Below w.heap.size w w') : Errs w' := ⟨h.1.below hb, h.2.below hb⟩

theorem atoi_ok (ds : List UInt8) (n : Int) (w : World) (hl : ds.length ≤ 1000000) (h : Lib.atoiAll ds = .ok n) :
    Calls Tryz.prog 134 #[.string (txt ds)] w fun e w' => e = .returned (.tuple #[.int .i64 n, .nilIface]) ∧ Below w.heap.size w w' := by
  refine (Any.strconv_Atoi_ok laysC172 (txt ds) (by rw [txt_size]; omega) n h w).mono ?_
  rintro e w' ⟨rfl, rfl | ⟨t, rfl⟩⟩
  · exact ⟨rfl, Below.refl _ _⟩
  · exact ⟨rfl, Lib.bytesWorld_below _ _ _⟩
theorem atoi_empty (w : World) (hT : Errs w) :
    Calls Tryz.prog 134 #[.string (txt [])] w fun e w' => ∃ N, e = .returned (.tuple #[.int .i64 0, .iface 177 (.pointer (some ⟨N, 0, none⟩))]) ∧ Below w.heap.size w w' := by
  obtain ⟨ev, h1, h2⟩ := hT.1
  refine (Any.strconv_Atoi_syntax laysC172 (txt []) (by decide) rfl ev w h1 h2).mono ?_
  rintro e w' ⟨N, rfl, _, _, hb⟩
  exact ⟨N, rfl, hb⟩
theorem atoi_range (ds : List UInt8) (w : World) (hl : ds.length ≤ 1000000) (h : Lib.atoiAll ds = .range) (hs : Lib.atoiSat ds = 9223372036854775807) (hT : Errs w) :
    Calls Tryz.prog 134 #[.string (txt ds)] w fun e w' => ∃ N, e = .returned (.tuple #[.int .i64 9223372036854775807, .iface 177 (.pointer (some ⟨N, 0, none⟩))]) ∧ Below w.heap.size w w' := by
  obtain ⟨ev, h1, h2⟩ := hT.2
  refine (Any.strconv_Atoi_range laysC172 (txt ds) (by rw [txt_size]; omega) h ev w h1 h2).mono ?_
  rintro e w' ⟨N, rfl, _, _, hb⟩
  exact ⟨N, by rw [show (txt ds).data.toList = ds from rfl, hs]; rfl, hb⟩
theorem itoa_any (n : Nat) (w : World) (hn : n ≤ 1000000) (hT : Tens w) :
    Calls Tryz.prog 126 #[.int .i64 n] w fun e w' => e = .returned (.string (txt (decD n))) ∧ Below w.heap.size w w' := by
  refine (Any.strconv_Itoa laysM171 (n : Int) (by omega) (by omega) w hT).mono ?_
  rintro e w' ⟨rfl, k, os, rfl⟩
  rw [Lib.itoa_nonneg, decDigits_eq]
  exact ⟨rfl, Lib.below_grow _ _ (Nat.le_refl _) k os⟩
theorem repeat_noughts (c : Nat) (w : World) (hc : c ≤ 1000000) :
    Calls Tryz.prog 119 #[.string ⟨#[48]⟩, .int .i64 c] w fun e w' => e = .returned (.string (txt (List.replicate c 48))) ∧ Below w.heap.size w w' := by
  refine (Any.strings_Repeat lays105 extraRp ⟨#[48]⟩ c w (by omega) (by show 1 * c ≤ _; omega)).mono ?_
  rintro e w' ⟨rfl, hb⟩
  refine ⟨?_, hb⟩
  have : ∀ c, Lib.repeatL [48] c = List.replicate c (48 : UInt8) := by
    intro c
    induction c with
    | zero => rfl
    | succ c ih =>
      show [48] ++ Lib.repeatL [48] c = _
      rw [ih]; rfl
  show Ending.returned (.string ⟨(Lib.repeatL [48] c).toArray⟩) = _
  rw [this]; rfl
theorem indexByte_is (s : ByteArray) (c : UInt8) (w : World) :
    Calls Tryz.prog 118 #[.string s, .int .u8 (c.toNat : Int)] w fun e w' => e = .returned (.int .i64 (Lib.indexByte s.data.toList c)) ∧ w' = w := by
  have := Any.strings_IndexByte lays137 s (c.toNat : Int) w
  rw [show ((c.toNat : Int)).toNat.toUInt8 = c by simp] at this
  exact this

end Go.Proofs.YtdjhbodbmhakgaaGreatDoor

namespace Go.Proofs.YtdjhbodbmhakgaaGreatDoor
open Go.RowKit
set_option maxRecDepth 100000

/-- The signs of a text. -/
def SignsOf (g : ByteArray) (p : UInt8 → Bool) : Prop := ∀ c, (p c = true → 0 ≤ Lib.indexByte g.data.toList c) ∧ (p c = false → Lib.indexByte g.data.toList c < 0)
theorem signs_one {d : UInt8} {p : UInt8 → Bool} (h : ∀ c, p c = true ↔ c = d) : SignsOf ⟨#[d]⟩ p := by
  intro c
  have e : Lib.indexByte [d] c = if d == c then 0 else -1 := by
    unfold Lib.indexByte
    split <;> rfl
  show (_ → 0 ≤ Lib.indexByte [d] c) ∧ (_ → Lib.indexByte [d] c < 0)
  rw [e]
  constructor
  · intro g
    obtain rfl := (h c).1 g
    simp
  · intro g
    have : ¬ c = d := fun x => by rw [(h c).2 x] at g; cases g
    have : (d == c) = false := by simp; exact fun x => this x.symm
    rw [this]; decide
theorem signs_sep : SignsOf ⟨#[84, 32]⟩ isSep := by
  intro c
  have e : Lib.indexByte [84, 32] c = if (84 : UInt8) == c then 0 else if (32 : UInt8) == c then 1 else -1 := by
    unfold Lib.indexByte Lib.indexByte
    cases (84 : UInt8) == c <;> cases (32 : UInt8) == c <;> rfl
  show (_ → 0 ≤ Lib.indexByte [84, 32] c) ∧ (_ → Lib.indexByte [84, 32] c < 0)
  rw [e]
  unfold isSep
  rw [show (c == 84) = ((84 : UInt8) == c) from BEq.comm, show (c == 32) = ((32 : UInt8) == c) from BEq.comm]
  cases (84 : UInt8) == c <;> cases (32 : UInt8) == c <;> simp
theorem signs_hy : SignsOf ⟨#[45]⟩ isHy := signs_one isHy_iff
theorem signs_col : SignsOf ⟨#[58]⟩ isCol := signs_one isCol_iff
theorem signs_pt : SignsOf ⟨#[46]⟩ isPt := signs_one isPt_iff
theorem signs_W : SignsOf ⟨#[87]⟩ isW := signs_one isW_iff

set_option maxHeartbeats 1000000 in
theorem next_no (w0 : World) (R : Nat) (l : List UInt8) (b : Bool) (g : ByteArray) (p : UInt8 → Bool) (w : World) (h : Rd w0 w R l b) (hl : l.length ≤ 1000000) (hp : SignsOf g p) (hn : signP p l = none) :
    Calls Tryz.prog 83 #[.pointer (some ⟨R, 0, none⟩), .string g] w fun e w' => e = .returned (.bool false) ∧ w' = w := by
  cases l with
  | nil =>
    have c0 : w.cell? ⟨R, 0, none⟩ = some (.string ⟨#[]⟩) := h.cell0
    clear hp hn h
    go_enter Tryz.func83, Tryz.ntmps83
    go_wp2_with fail
    go_ret
    exact ⟨rfl, rfl⟩
  | cons c r =>
    obtain ⟨s, hse⟩ : ∃ s : ByteArray, c :: r = s.data.toList := ⟨txt (c :: r), rfl⟩
    have hs1 : s.size = r.length + 1 := by
      have := congrArg List.length hse
      simpa using this.symm
    have hs : 0 < s.size := by omega
    have hs2 : s.size ≤ 1000000 := by rw [hs1]; exact hl
    have hc : c = s[0] := by
      have : s[0] = s.data.toList[0]'(by simpa using hs) := by simp; rfl
      rw [this]; simp [← hse]
    rw [hse] at h
    have c0 : w.cell? ⟨R, 0, none⟩ = some (.string s) := h.cell0
    have hpc : p s[0] = false := by
      rw [← hc]
      cases e : p c with
      | false => rfl
      | true => rw [sign_cons, e] at hn; cases hn
    have hi := (hp s[0]).2 hpc
    have hne : ¬ s.toList = [] := by rw [ByteArray.toList_eq, ← hse]; simp
    have hne2 : s.toList.isEmpty = false := by rw [ByteArray.toList_eq, ← hse]; rfl
    have HI := hide (fun w => indexByte_is g s[0] w)
    generalize Lib.indexByte g.data.toList s[0] = x at hi HI
    clear hp hn h hse hc hpc hs1 hl
    go_enter Tryz.func83, Tryz.ntmps83
    go_wp2_with fail
    refine (HI.out _).mono ?_
    rintro e v ⟨rfl, rfl⟩
    go_wp2_with fail
    go_ret
    exact ⟨rfl, rfl⟩

set_option maxHeartbeats 1000000 in
theorem next_yes (w0 : World) (R : Nat) (l k : List UInt8) (b : Bool) (g : ByteArray) (p : UInt8 → Bool) (w : World) (h : Rd w0 w R l b) (hl : l.length ≤ 1000000) (hp : SignsOf g p) (hn : signP p l = some (0, k)) :
    Calls Tryz.prog 83 #[.pointer (some ⟨R, 0, none⟩), .string g] w fun e w' => e = .returned (.bool true) ∧ Rd w0 w' R k b := by
  cases l with
  | nil => cases hn
  | cons c r =>
    obtain ⟨s, hse⟩ : ∃ s : ByteArray, c :: r = s.data.toList := ⟨txt (c :: r), rfl⟩
    have hs1 : s.size = r.length + 1 := by
      have := congrArg List.length hse
      simpa using this.symm
    have hs : 0 < s.size := by omega
    have hs2 : s.size ≤ 1000000 := by rw [hs1]; exact hl
    have hc : c = s[0] := by
      have : s[0] = s.data.toList[0]'(by simpa using hs) := by simp; rfl
      rw [this]; simp [← hse]
    have hpc : p c = true ∧ r = k := by
      rw [sign_cons] at hn
      split at hn
      · rename_i e; cases hn; exact ⟨e, rfl⟩
      · cases hn
    obtain ⟨hpc, rfl⟩ := hpc
    rw [hc] at hpc
    have hi := (hp s[0]).1 hpc
    have hne : ¬ s.toList = [] := by rw [ByteArray.toList_eq, ← hse]; simp
    have hne2 : s.toList.isEmpty = false := by rw [ByteArray.toList_eq, ← hse]; rfl
    have HI := hide (fun w => indexByte_is g s[0] w)
    have hdr : r = s.data.toList.drop 1 := by rw [← hse]; rfl
    rw [hse] at h
    have c0 : w.cell? ⟨R, 0, none⟩ = some (.string s) := h.cell0
    have f0 := h.frozen 0
    have E := hide (show Rd w0 (w.setCell ⟨R, 0, none⟩ (.string (s.extract 1 s.size))) R r b by
      rw [txt_post, hdr]; exact h.set0 _)
    generalize Lib.indexByte g.data.toList s[0] = x at hi HI
    clear hp hn h hse hc hpc hs1 hdr hl
    go_enter Tryz.func83, Tryz.ntmps83
    go_wp2_with fail
    refine (HI.out _).mono ?_
    rintro e v ⟨rfl, rfl⟩
    go_wp2_with fail
    go_ret
    exact ⟨rfl, E.out⟩

theorem sign_len {p : UInt8 → Bool} {l k : List UInt8} {v : Int} (h : signP p l = some (v, k)) : k.length ≤ l.length := by
  cases l with
  | nil => cases h
  | cons c r =>
    rw [sign_cons] at h
    split at h
    · cases h; simp
    · cases h

set_option maxHeartbeats 1000000 in
theorem sign_any (w0 : World) (R : Nat) (l : List UInt8) (b : Bool) (g : ByteArray) (p : UInt8 → Bool) (w : World) (h : Rd w0 w R l b) (hl : l.length ≤ 1000000) (hp : SignsOf g p) :
    Calls Tryz.prog 76 #[.pointer (some ⟨R, 0, none⟩), .string g] w fun e w' => ∃ k b', e = .returned (.tuple #[]) ∧ Rd w0 w' R k b' ∧ k.length ≤ 1000000 ∧ Tell b (signP p l) 0 k b' := by
  cases hn : signP p l with
  | none =>
    have HN := hide (next_no w0 R l b g p w h hl hp hn)
    have HM := hide (must_any w0 R l b false w h)
    clear hp hn h
    go_enter Tryz.func76, Tryz.ntmps76
    go_wp2_with fail
    refine HN.out.mono ?_
    rintro e v ⟨rfl, rfl⟩
    go_wp2_with fail
    refine HM.out.mono ?_
    rintro e v ⟨rfl, h1⟩
    go_wp2_with fail
    go_end0
    exact ⟨l, _, rfl, h1, hl, .inr ⟨by simp, .inr rfl⟩⟩
  | some x =>
    obtain ⟨v, k⟩ := x
    have hv : v = 0 := by
      cases l with
      | nil => cases hn
      | cons c r =>
        rw [sign_cons] at hn
        split at hn
        · cases hn; rfl
        · cases hn
    subst hv
    have HN := hide (next_yes w0 R l k b g p w h hl hp hn)
    have hk : k.length ≤ 1000000 := Nat.le_trans (sign_len hn) hl
    clear hp hn h
    go_enter Tryz.func76, Tryz.ntmps76
    go_wp2_with fail
    refine HN.out.mono ?_
    rintro e v ⟨rfl, h1⟩
    go_wp2_with fail
    refine (must_any w0 R k b true v h1).mono ?_
    rintro e v2 ⟨rfl, h2⟩
    go_wp2_with fail
    go_end0
    refine ⟨k, b, rfl, by simpa using h2, hk, Tell.pure⟩

end Go.Proofs.YtdjhbodbmhakgaaGreatDoor

namespace Go.Proofs.YtdjhbodbmhakgaaGreatDoor
open Go.RowKit
set_option maxRecDepth 100000

/-- What 'value' tells. -/
def Valued (b : Bool) (ds : List UInt8) (v : Int) (b' : Bool) : Prop := (valV ds = some v ∧ b' = b) ∨ (valV ds = none ∧ b' = true ∧ ((ds = [] ∧ v = 0) ∨ (¬ ds = [] ∧ v = 9223372036854775807)))
theorem Valued.bounds {b b' : Bool} {ds : List UInt8} {v : Int} (h : Valued b ds v b') : 0 ≤ v ∧ v ≤ 9223372036854775807 := by
  rcases h with ⟨h, _⟩ | ⟨_, _, h⟩
  · unfold valV at h
    split at h
    · rename_i g
      have := g.2
      unfold maxI at this
      cases h; omega
    · cases h
  · omega
theorem Valued.small {b b' : Bool} {ds : List UInt8} {v : Int} (h : Valued b ds v b') (hd : ∀ c ∈ ds, isDg c = true) {k : Nat} (hk : ds.length ≤ k) (hk2 : k ≤ 3) : v < 10 ^ k := by
  have h1 := natOf_lt ds hd
  have h2 : (10 : Nat) ^ ds.length ≤ 10 ^ k := Nat.pow_le_pow_right (by decide) hk
  have h3 : (10 : Nat) ^ k ≤ 10 ^ 3 := Nat.pow_le_pow_right (by decide) hk2
  have h4 : ((10 ^ k : Nat) : Int) = (10 : Int) ^ k := by push_cast; rfl
  rw [← h4]
  rcases h with ⟨h, _⟩ | ⟨h, _, h5⟩
  · unfold valV at h
    split at h
    · cases h; omega
    · cases h
  · rcases h5 with ⟨h5, h6⟩ | ⟨h5, h6⟩
    · have : 0 < 10 ^ k := Nat.pow_pos (by decide)
      omega
    · exfalso
      unfold valV maxI at h
      rw [if_pos ⟨h5, by omega⟩] at h
      cases h

set_option maxHeartbeats 1000000 in
set_option maxRecDepth 100000 in
theorem value_any (w0 : World) (R : Nat) (l ds : List UInt8) (b : Bool) (w : World) (h : Rd w0 w R l b) (hd : ∀ c ∈ ds, isDg c = true) (hl : ds.length ≤ 1000000) (hT : Errs w0) :
    Calls Tryz.prog 112 #[.pointer (some ⟨R, 0, none⟩), .string (txt ds)] w fun e w' => ∃ v b', e = .returned (.int .i64 v) ∧ Rd w0 w' R l b' ∧ Hid (Valued b ds v b') := by
  have hT' := hT.below h.below
  have MU := hide (fun (c : Bool) (w' : World) (hb : Below w.heap.size w w') => must_any w0 R l b c w' (h.pass hb))
  rcases atoi_digits hd with ⟨e1, e3⟩ | ⟨e1, e2, e3⟩ | ⟨e1, e2, e3⟩
  · have V : Hid (Valued b ds 0 true) := .inr ⟨e3, rfl, .inl ⟨e1, rfl⟩⟩
    subst e1
    have HA := hide (atoi_empty w hT')
    clear e3 h hT hT' hd
    go_enter Tryz.func112, Tryz.ntmps112
    go_wp2_with fail
    refine HA.out.mono ?_
    rintro e v ⟨N, rfl, hb⟩
    go_wp2_with fail
    refine (MU.out false v hb).mono ?_
    rintro e v2 ⟨rfl, h2⟩
    go_wp2_with fail
    go_ret
    exact ⟨_, _, rfl, h2, by simpa using V⟩
  · have HA := hide (atoi_ok ds _ w hl e1)
    have V : Hid (Valued b ds (natOf ds : Int) b) := .inl ⟨e3, rfl⟩
    unfold maxI at e2
    have n1 : (0 : Int) ≤ (natOf ds : Int) := by omega
    have n2 : (natOf ds : Int) ≤ 9223372036854775807 := by omega
    clear e1 e2 e3 h hT hT' hd
    generalize (natOf ds : Int) = x at *
    go_enter Tryz.func112, Tryz.ntmps112
    go_wp2_with fail
    refine HA.out.mono ?_
    rintro e v ⟨rfl, hb⟩
    go_wp2_with fail
    refine (MU.out true v hb).mono ?_
    rintro e v2 ⟨rfl, h2⟩
    go_wp2_with fail
    go_ret
    exact ⟨_, _, rfl, h2, by simpa using V⟩
  · have hne : ¬ ds = [] := fun x => by rw [x] at e1; cases e1
    have HA := hide (atoi_range ds w hl e1 e2 hT')
    have V : Hid (Valued b ds 9223372036854775807 true) := .inr ⟨e3, rfl, .inr ⟨hne, rfl⟩⟩
    clear e1 e2 e3 h hT hT' hd hne
    go_enter Tryz.func112, Tryz.ntmps112
    go_wp2_with fail
    refine HA.out.mono ?_
    rintro e v ⟨N, rfl, hb⟩
    go_wp2_with fail
    refine (MU.out false v hb).mono ?_
    rintro e v2 ⟨rfl, h2⟩
    go_wp2_with fail
    go_ret
    exact ⟨_, _, rfl, h2, by simpa using V⟩

theorem txt_join (l k : List UInt8) : txt (l ++ k) = txt l ++ txt k := by
  apply ByteArray.ext
  rw [ByteArray.data_append]
  show (l ++ k).toArray = l.toArray ++ k.toArray
  simp
theorem digs_all (l : List UInt8) : digsOf l.length l = l.takeWhile isDg := by unfold digsOf; rw [List.take_length]
theorem drop_digs (l : List UInt8) : l.drop (l.takeWhile isDg).length = l.dropWhile isDg := by
  have := List.takeWhile_append_dropWhile (p := isDg) (l := l)
  have e := congrArg (List.drop (l.takeWhile isDg).length) this
  rw [List.drop_left] at e
  exact e.symm
theorem year_tell {l : List UInt8} {b b' : Bool} {v : Int} {c : Bool} (hc : c = decide (4 ≤ (l.takeWhile isDg).length)) (h : Valued (b || !c) (l.takeWhile isDg) v b') : Tell b (yrP l) v (l.dropWhile isDg) b' := by
  unfold yrP
  subst hc
  by_cases g : 4 ≤ (l.takeWhile isDg).length
  · rw [decide_eq_true g] at h
    simp only [Bool.not_true, Bool.or_false] at h
    rcases h with ⟨h1, h2⟩ | ⟨h1, h2, _⟩
    · unfold valV at h1
      split at h1
      · rename_i x
        cases h1
        rw [if_pos ⟨g, x.2⟩, h2]; exact Tell.pure
      · cases h1
    · unfold valV at h1
      split at h1
      · cases h1
      · rename_i x
        rw [if_neg (fun y => x ⟨fun z => (by rw [z] at g; simp at g), y.2⟩)]
        exact .inr ⟨h2, .inr rfl⟩
  · rw [decide_eq_false g] at h
    rw [if_neg (fun y => g y.1)]
    refine .inr ⟨?_, .inr rfl⟩
    rcases h with ⟨_, h2⟩ | ⟨_, h2, _⟩
    · rw [h2]; simp
    · exact h2
theorem two_tell {l : List UInt8} {b b' : Bool} {v : Int} {c : Bool} (hc : c = decide ((digsOf 2 l).length = 2)) (h : Valued (b || !c) (digsOf 2 l) v b') : Tell b (twoP l) v (l.drop (digsOf 2 l).length) b' := by
  unfold twoP
  subst hc
  by_cases g : (digsOf 2 l).length = 2
  · rw [decide_eq_true g] at h
    simp only [Bool.not_true, Bool.or_false] at h
    rcases h with ⟨h1, h2⟩ | ⟨h1, h2, _⟩
    · unfold valV at h1
      split at h1
      · cases h1
        rw [if_pos g, h2]; exact Tell.pure
      · cases h1
    · exfalso
      have := natOf_lt _ (digs_dg 2 l)
      rw [g] at this
      unfold valV maxI at h1
      rw [if_pos ⟨fun z => (by rw [z] at g; cases g), by omega⟩] at h1
      cases h1
  · rw [decide_eq_false g] at h
    rw [if_neg g]
    refine .inr ⟨?_, .inr rfl⟩
    rcases h with ⟨_, h2⟩ | ⟨_, h2, _⟩
    · rw [h2]; simp
    · exact h2

set_option maxHeartbeats 1000000 in
set_option maxRecDepth 100000 in
theorem rdYear_any (w0 : World) (R : Nat) (l : List UInt8) (b : Bool) (w : World) (h : Rd w0 w R l b) (hl : l.length ≤ 1000000) (hT : Errs w0) :
    Calls Tryz.prog 75 #[.pointer (some ⟨R, 0, none⟩)] w fun e w' => ∃ v k b', e = .returned (.int .i64 v) ∧ Rd w0 w' R k b' ∧ k.length ≤ 1000000 ∧ 0 ≤ v ∧ v ≤ 9223372036854775807 ∧ Hid (Tell b (yrP l) v k b') := by
  have c0 := h.cell0
  have HD := hide (digits_any w0 R l b l.length w h hl hl)
  rw [digs_all, drop_digs] at HD
  have hdg : ∀ c ∈ l.takeWhile isDg, isDg c = true := fun x hx => by
    have := List.all_takeWhile (p := isDg) (l := l)
    rw [List.all_eq_true] at this
    exact this x hx
  have hle := (List.takeWhile_sublist isDg (l := l)).length_le
  have hle2 := (List.dropWhile_sublist isDg (l := l)).length_le
  have Y := hide (fun (b' : Bool) (v : Int) (c : Bool) => year_tell (l := l) (b := b) (b' := b') (v := v) (c := c))
  have HM := hide (fun (c : Bool) (w : World) => must_any w0 R (l.dropWhile isDg) b c w)
  have HV := hide (fun (b : Bool) (w : World) h => value_any w0 R (l.dropWhile isDg) (l.takeWhile isDg) b w h hdg (by omega) hT)
  have hk : (l.dropWhile isDg).length ≤ 1000000 := by omega
  have hz : (txt l).size = l.length := rfl
  have hz2 : (txt (l.takeWhile isDg)).size = (l.takeWhile isDg).length := rfl
  clear h hdg hT
  generalize l.takeWhile isDg = ds at *
  generalize l.dropWhile isDg = k at *
  generalize yrP l = y at *
  by_cases g : 4 ≤ ds.length
  · have Y2 := hide (fun b' v => Y.out b' v true (decide_eq_true g).symm)
    have g' : (4 : Int) ≤ (ds.length : Int) := by omega
    clear Y g
    go_enter Tryz.func75, Tryz.ntmps75
    go_wp2_with fail
    refine HD.out.mono ?_
    rintro e v ⟨rfl, h1⟩
    go_wp2_with fail
    refine (HM.out true v h1).mono ?_
    rintro e v2 ⟨rfl, h2⟩
    go_wp2_with fail
    refine (HV.out _ v2 h2).mono ?_
    rintro e v3 ⟨x, b', rfl, h3, V⟩
    have hb := V.out.bounds
    go_wp2_with fail
    go_ret
    exact ⟨x, k, b', rfl, h3, hk, hb.1, hb.2, Y2.out b' x V⟩
  · have Y2 := hide (fun b' v => Y.out b' v false (decide_eq_false g).symm)
    have g' : (ds.length : Int) < 4 := by omega
    have gd : decide ((4 : Int) ≤ (ds.length : Int)) = false := decide_eq_false (by omega)
    clear Y g
    go_enter Tryz.func75, Tryz.ntmps75
    go_wp2_with fail
    refine HD.out.mono ?_
    rintro e v ⟨rfl, h1⟩
    go_wp2_with fail
    refine (HM.out false v h1).mono ?_
    rintro e v2 ⟨rfl, h2⟩
    go_wp2_with fail
    refine (HV.out _ v2 h2).mono ?_
    rintro e v3 ⟨x, b', rfl, h3, V⟩
    have hb := V.out.bounds
    go_wp2_with fail
    go_ret
    exact ⟨x, k, b', rfl, h3, hk, hb.1, hb.2, Y2.out b' x V⟩

set_option maxHeartbeats 1000000 in
set_option maxRecDepth 100000 in
theorem rdTwo_any (w0 : World) (R : Nat) (l : List UInt8) (b : Bool) (w : World) (h : Rd w0 w R l b) (hl : l.length ≤ 1000000) (hT : Errs w0) :
    Calls Tryz.prog 77 #[.pointer (some ⟨R, 0, none⟩)] w fun e w' => ∃ v k b', e = .returned (.int .i64 v) ∧ Rd w0 w' R k b' ∧ k.length ≤ 1000000 ∧ 0 ≤ v ∧ v < 100 ∧ Hid (Tell b (twoP l) v k b') := by
  have HD := hide (digits_any w0 R l b 2 w h (by omega) hl)
  have hdg := digs_dg 2 l
  have hle := digs_len 2 l
  have Y := hide (fun (b' : Bool) (v : Int) (c : Bool) => two_tell (l := l) (b := b) (b' := b') (v := v) (c := c))
  have hk : (l.drop (digsOf 2 l).length).length ≤ 1000000 := by rw [List.length_drop]; omega
  have HM := hide (fun (c : Bool) (w : World) => must_any w0 R (l.drop (digsOf 2 l).length) b c w)
  have HV := hide (fun (b : Bool) (w : World) h => value_any w0 R (l.drop (digsOf 2 l).length) (digsOf 2 l) b w h hdg (by omega) hT)
  have VS := hide (fun (b b' : Bool) (v : Int) (x : Valued b (digsOf 2 l) v b') => x.small hdg hle.1 (by decide))
  have hz2 : (txt (digsOf 2 l)).size = (digsOf 2 l).length := rfl
  clear h hdg hT hle
  generalize l.drop (digsOf 2 l).length = k at *
  generalize digsOf 2 l = ds at *
  generalize twoP l = y at *
  by_cases g : ds.length = 2
  · have Y2 := hide (fun b' v => Y.out b' v true (decide_eq_true g).symm)
    have g1 : ((ds.length : Int) == 2) = true := by rw [g]; rfl
    have g2 : (ds.length == 2) = true := by rw [g]; rfl
    clear Y
    go_enter Tryz.func77, Tryz.ntmps77
    go_wp2_with fail
    refine HD.out.mono ?_
    rintro e v ⟨rfl, h1⟩
    go_wp2_with fail
    refine (HM.out true v h1).mono ?_
    rintro e v2 ⟨rfl, h2⟩
    go_wp2_with fail
    refine (HV.out _ v2 h2).mono ?_
    rintro e v3 ⟨x, b', rfl, h3, V⟩
    have hb := V.out.bounds
    have hs := VS.out _ _ _ V.out
    go_wp2_with fail
    go_ret
    exact ⟨x, k, b', rfl, h3, hk, hb.1, hs, Y2.out b' x V⟩
  · have Y2 := hide (fun b' v => Y.out b' v false (decide_eq_false g).symm)
    have g1 : ((ds.length : Int) == 2) = false := by rw [beq_eq_false_iff_ne]; omega
    have g2 : (ds.length == 2) = false := by rw [beq_eq_false_iff_ne]; omega
    clear Y
    go_enter Tryz.func77, Tryz.ntmps77
    go_wp2_with fail
    refine HD.out.mono ?_
    rintro e v ⟨rfl, h1⟩
    go_wp2_with fail
    refine (HM.out false v h1).mono ?_
    rintro e v2 ⟨rfl, h2⟩
    go_wp2_with fail
    refine (HV.out _ v2 h2).mono ?_
    rintro e v3 ⟨x, b', rfl, h3, V⟩
    have hb := V.out.bounds
    have hs := VS.out _ _ _ V.out
    go_wp2_with fail
    go_ret
    exact ⟨x, k, b', rfl, h3, hk, hb.1, hs, Y2.out b' x V⟩

theorem below_tell {l k : List UInt8} {b b1 : Bool} {n : Nat} {v : Int} {c : Bool} (h : Tell b (twoP l) v k b1) (hc : c = decide (v < (n : Int))) : Tell b (belowP n l) v k (b1 || !c) := by
  unfold belowP
  refine Tell.bind (f := fun v k => if decide (v < (n : Int)) = true then some (v, k) else none) h ?_
  subst hc
  exact Tell.must

set_option maxHeartbeats 1000000 in
set_option maxRecDepth 100000 in
theorem below_any (w0 : World) (R : Nat) (l : List UInt8) (b : Bool) (n : Nat) (w : World) (h : Rd w0 w R l b) (hl : l.length ≤ 1000000) (hn : n ≤ 100) (hT : Errs w0) :
    Calls Tryz.prog 82 #[.pointer (some ⟨R, 0, none⟩), .int .i64 n] w fun e w' => ∃ v k b', e = .returned (.int .i64 v) ∧ Rd w0 w' R k b' ∧ k.length ≤ 1000000 ∧ 0 ≤ v ∧ v < 100 ∧ Hid (Tell b (belowP n l) v k b') := by
  have H2 := hide (rdTwo_any w0 R l b w h hl hT)
  have Y := hide (fun (k : List UInt8) (b1 : Bool) (v : Int) (c : Bool) => below_tell (l := l) (k := k) (b := b) (b1 := b1) (n := n) (v := v) (c := c))
  clear h hT
  generalize belowP n l = y at *
  have hn2 : (n : Int) ≤ 100 := by omega
  generalize (n : Int) = m at *
  go_enter Tryz.func82, Tryz.ntmps82
  go_wp2_with fail
  refine H2.out.mono ?_
  rintro e v ⟨x, k, b1, rfl, h1, hk, x1, x2, T⟩
  have HM := hide (fun (c : Bool) => must_any w0 R k b1 c v h1)
  clear h1
  by_cases g : x < m
  · have Y2 := hide (Y.out k b1 x true T (decide_eq_true g).symm)
    clear Y H2 T
    go_wp2_with fail
    refine (HM.out true).mono ?_
    rintro e v2 ⟨rfl, h2⟩
    go_wp2_with fail
    go_ret
    exact ⟨x, k, _, rfl, h2, hk, x1, x2, Y2⟩
  · have Y2 := hide (Y.out k b1 x false T (decide_eq_false g).symm)
    have g' : m ≤ x := by omega
    have gd : decide (x < m) = false := decide_eq_false g
    clear Y H2 T g
    go_wp2_with fail
    refine (HM.out false).mono ?_
    rintro e v2 ⟨rfl, h2⟩
    go_wp2_with fail
    go_ret
    exact ⟨x, k, _, rfl, h2, hk, x1, x2, Y2⟩

theorem th_tell {l : List UInt8} {b b' : Bool} {v : Int} {c : Bool} (hc : c = decide (digsOf 3 l ≠ [])) (h : Valued (b || !c) (digsOf 3 l ++ List.replicate (3 - (digsOf 3 l).length) 48) v b') : Tell b (thP l) v (l.drop (digsOf 3 l).length) b' := by
  have hle := digs_len 3 l
  have hdg := digs_dg 3 l
  have e : natOf (digsOf 3 l ++ List.replicate (3 - (digsOf 3 l).length) 48) = fracOf 3 (digsOf 3 l) := by
    have hx := frac_nat 3 0 (digsOf 3 l ++ List.replicate (3 - (digsOf 3 l).length) 48) (by rw [List.length_append, List.length_replicate]; omega)
    rw [fracOf_noughts, List.length_append, List.length_replicate, show 3 - ((digsOf 3 l).length + (3 - (digsOf 3 l).length)) = 0 by omega, Nat.pow_zero, Nat.mul_one, Nat.zero_mul, Nat.zero_add] at hx
    exact hx
  have hlt : fracOf 3 (digsOf 3 l) < 10 ^ 3 := fracOf_lt 3 _ hdg
  unfold thP
  subst hc
  by_cases g : digsOf 3 l ≠ []
  · rw [decide_eq_true g] at h
    simp only [Bool.not_true, Bool.or_false] at h
    have hv : valV (digsOf 3 l ++ List.replicate (3 - (digsOf 3 l).length) 48) = some (fracOf 3 (digsOf 3 l) : Int) := by
      unfold valV maxI
      rw [e, if_pos ⟨by simp [g], by omega⟩]
    rcases h with ⟨h1, h2⟩ | ⟨h1, _, _⟩
    · rw [hv] at h1
      cases h1
      rw [if_pos g, h2]; exact Tell.pure
    · rw [hv] at h1; cases h1
  · rw [decide_eq_false g] at h
    rw [if_neg g]
    refine .inr ⟨?_, .inr rfl⟩
    rcases h with ⟨_, h2⟩ | ⟨_, h2, _⟩
    · rw [h2]; simp
    · exact h2

set_option maxHeartbeats 1000000 in
set_option maxRecDepth 100000 in
theorem thousandths_any (w0 : World) (R : Nat) (l : List UInt8) (b : Bool) (w : World) (h : Rd w0 w R l b) (hl : l.length ≤ 1000000) (hT : Errs w0) :
    Calls Tryz.prog 84 #[.pointer (some ⟨R, 0, none⟩)] w fun e w' => ∃ v k b', e = .returned (.int .i64 v) ∧ Rd w0 w' R k b' ∧ k.length ≤ 1000000 ∧ 0 ≤ v ∧ v < 1000 ∧ Hid (Tell b (thP l) v k b') := by
  have HD := hide (digits_any w0 R l b 3 w h (by omega) hl)
  have hdg := digs_dg 3 l
  have hle := digs_len 3 l
  have Y := hide (fun (b' : Bool) (v : Int) (c : Bool) => th_tell (l := l) (b := b) (b' := b') (v := v) (c := c))
  have hk : (l.drop (digsOf 3 l).length).length ≤ 1000000 := by rw [List.length_drop]; omega
  have HM := hide (fun (c : Bool) (w : World) => must_any w0 R (l.drop (digsOf 3 l).length) b c w)
  have hdg2 : ∀ c ∈ digsOf 3 l ++ List.replicate (3 - (digsOf 3 l).length) 48, isDg c = true := by
    intro c hc
    rcases List.mem_append.1 hc with hc | hc
    · exact hdg c hc
    · rw [List.eq_of_mem_replicate hc]; decide
  have hl2 : (digsOf 3 l ++ List.replicate (3 - (digsOf 3 l).length) 48).length ≤ 3 := by rw [List.length_append, List.length_replicate]; omega
  have HV := hide (fun (b : Bool) (w : World) h => value_any w0 R (l.drop (digsOf 3 l).length) (digsOf 3 l ++ List.replicate (3 - (digsOf 3 l).length) 48) b w h hdg2 (by omega) hT)
  have VS := hide (fun (b b' : Bool) (v : Int) (x : Valued b (digsOf 3 l ++ List.replicate (3 - (digsOf 3 l).length) 48) v b') => x.small hdg2 hl2 (by decide))
  have HR := hide (fun w => repeat_noughts (3 - (digsOf 3 l).length) w (by omega))
  have hz1 : (txt (digsOf 3 l)).size = (digsOf 3 l).length := rfl
  have hz2 : (txt (List.replicate (3 - (digsOf 3 l).length) 48)).size = 3 - (digsOf 3 l).length := by rw [txt_size, List.length_replicate]
  have hj : Hid (txt (digsOf 3 l ++ List.replicate (3 - (digsOf 3 l).length) 48) = txt (digsOf 3 l) ++ txt (List.replicate (3 - (digsOf 3 l).length) 48)) := txt_join _ _
  have ha := fun w => run_string_add_sum (P := Tryz.prog) w (txt (digsOf 3 l)) (txt (List.replicate (3 - (digsOf 3 l).length) 48)) (by omega)
  have hsub : ((3 - (digsOf 3 l).length : Nat) : Int) = 3 - ((digsOf 3 l).length : Int) := by omega
  have hne1 : digsOf 3 l ≠ [] → ¬ (txt (digsOf 3 l)).toList = [] := fun x => by rw [ByteArray.toList_eq]; exact x
  have hne2 : digsOf 3 l ≠ [] → (txt (digsOf 3 l)).toList.isEmpty = false := fun x => by rw [ByteArray.toList_eq, txt_data]; simpa using x
  clear h hdg hdg2 hT hl2
  by_cases g : digsOf 3 l ≠ []
  · have Y2 := hide (fun b' v => Y.out b' v true (decide_eq_true g).symm)
    have g1 := hne1 g
    have g2 := hne2 g
    have g3 : (0 : Int) < ((digsOf 3 l).length : Int) := by have := List.length_pos_iff.2 g; omega
    clear Y g hne1 hne2
    rw [hj.out] at HV
    rw [hsub] at HR
    clear hj hsub
    generalize l.drop (digsOf 3 l).length = k at *
    generalize txt (List.replicate (3 - (digsOf 3 l).length) 48) = zs at *
    generalize digsOf 3 l = ds at *
    generalize thP l = y at *
    go_enter Tryz.func84, Tryz.ntmps84
    go_wp2_with fail
    refine HD.out.mono ?_
    rintro e v ⟨rfl, h1⟩
    go_wp2_with fail
    refine (HM.out true v h1).mono ?_
    rintro e v2 ⟨rfl, h2⟩
    go_wp2_with fail
    refine (HR.out _).mono ?_
    rintro e v3 ⟨rfl, hb⟩
    have h3 := h2.pass hb
    clear h1 h2 hb
    go_wp2_with fail
    refine (HV.out _ v3 h3).mono ?_
    rintro e v4 ⟨x, b', rfl, h4, V⟩
    have hb := V.out.bounds
    have hs := VS.out _ _ _ V.out
    go_wp2_with fail
    go_ret
    exact ⟨x, k, b', rfl, h4, hk, hb.1, hs, Y2.out b' x V⟩
  · have Y2 := hide (fun b' v => Y.out b' v false (decide_eq_false g).symm)
    have g1 : digsOf 3 l = [] := by simpa using g
    clear Y g hne1 hne2 hj ha hz1 hz2 hsub HR
    rw [g1] at HD HV VS Y2 hk HM
    clear g1
    have gd : (txt []).toList.isEmpty = true := by rw [ByteArray.toList_eq]; rfl
    have hz0 : (txt ([] : List UInt8)).size = 0 := rfl
    have ha : ∀ w, (Op.stringOp .add (txt []) (txt (List.replicate 3 48))).run Tryz.prog w = .ok (.string (txt [] ++ txt (List.replicate 3 48))) w := fun w => run_string_add_sum (P := Tryz.prog) w (txt []) (txt (List.replicate 3 48)) (by decide)
    have HR := hide (fun w => repeat_noughts 3 w (by omega))
    rw [show ([] ++ List.replicate (3 - ([] : List UInt8).length) 48 : List UInt8) = [] ++ List.replicate 3 48 from rfl, txt_join] at HV
    have hz3 : (txt (List.replicate 3 48)).size = 3 := rfl
    generalize txt (List.replicate 3 48) = zs at *
    generalize thP l = y at *
    go_enter Tryz.func84, Tryz.ntmps84
    go_wp2_with fail
    refine HD.out.mono ?_
    rintro e v ⟨rfl, h1⟩
    go_wp2_with fail
    refine (HM.out false v h1).mono ?_
    rintro e v2 ⟨rfl, h2⟩
    go_wp2_with fail
    refine (HR.out _).mono ?_
    rintro e v3 ⟨rfl, hb⟩
    have h3 := h2.pass hb
    clear h1 h2 hb
    go_wp2_with fail
    refine (HV.out _ v3 h3).mono ?_
    rintro e v4 ⟨x, b', rfl, h4, V⟩
    have hb := V.out.bounds
    have hs := VS.out _ _ _ V.out
    go_wp2_with fail
    go_ret
    exact ⟨x, _, b', rfl, h4, hk, hb.1, hs, Y2.out b' x V⟩

end Go.Proofs.YtdjhbodbmhakgaaGreatDoor

namespace Go.Proofs.YtdjhbodbmhakgaaGreatDoor
open Go.RowKit

theorem tab_int {P : Program} {w : World} {name : String} {g : Nat} {t e : TypeId} {n : Nat} {zs : List Int} {kd : IntKind} (hg : P.globalNamed name = some g) (hty : (P.globals[g]?).map (·.type) = some t)
    (ht : P.underlying t = some (.array n e)) (he : P.underlying e = some (.int kd)) (hce : P.cellsOf e = 1) (h : Lib.VarReads P w name (.agg (zs.map fun z => .lit (.int kd z)))) (k : Nat) (hk : k < n) :
    w.cell? ⟨g, k, none⟩ = some (.int kd (zs.getD k 0)) := by
  obtain ⟨g', t', cs, fuel, p, hg', hty', hvar, hd⟩ := h
  obtain rfl := Option.some.inj (hg.symm.trans hg')
  obtain rfl := Option.some.inj (hty.symm.trans hty')
  obtain ⟨fuel', d, q, hdi, hx⟩ := Lib.array_elem ht hd k hk
  rw [hce] at hx
  obtain ⟨z, hcs, hd', _⟩ := DataW.trod_int he hx
  have e1 : cs[k]? = some (.int kd z) := by
    have := congrArg (·[0]?) hcs
    simpa [List.getElem?_take, List.getElem?_drop] using this
  have e2 : zs[k]? = some z := by
    have e3 : d = .lit (.int kd z) := congrArg Prod.fst hd'
    rw [e3] at hdi
    simp only [List.getElem?_map, Option.map_eq_some_iff, DataW.lit.injEq, Lit.int.injEq, true_and] at hdi
    obtain ⟨l, h1, rfl⟩ := hdi
    exact h1
  rw [World.var?_cell hg hvar k, e1, List.getD, e2]
  rfl

/-- The program's table of lengths: of a year that is no leap year. -/
def Lens (w : World) : Prop := ∀ k : Nat, k < 12 → w.cell? ⟨1, k, none⟩ = some (.int .i64 (lenV 1 (k + 1)))
theorem Lens.below {w w' : World} (h : Lens w) (hb : Below w.heap.size w w') : Lens w' := by
  intro k hk
  have := h k hk
  exact (hb.cell (World.block_lt_of_cell? _ _ this)).trans this
theorem lens_eq : (Rows.laid_counterfoil_days_lengths : DataW Unit) = .agg (((List.range 12).map fun k : Nat => lenV 1 ((k : Int) + 1)).map fun z => .lit (.int .i64 z)) := by kernel_rfl
theorem lens_of {w : World} (h : Lib.VarReads Tryz.prog w "counterfoil/days.lengths" Rows.laid_counterfoil_days_lengths) : Lens w := by
  intro k hk
  rw [lens_eq] at h
  have := tab_int (P := Tryz.prog) (g := 1) (by kernel_rfl) (by kernel_rfl) Tryz.underlying132 Tryz.underlying3 (by kernel_rfl) h k hk
  rw [this]
  simp [List.getD, hk]

end Go.Proofs.YtdjhbodbmhakgaaGreatDoor
