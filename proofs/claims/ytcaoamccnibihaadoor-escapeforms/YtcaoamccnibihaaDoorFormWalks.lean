/- The program's Form and Unform answer by functions of lists of bytes; they change nothing that was there. Conditions: texts of at most 2^28 bytes; the program's tables read as its text lays them; the library's variable MaxLen holds some number. -/
import Derived.Shelf.Strings.Replace
import Derived.Test.YtcaoamccnibihaaDoorEncWalks
import Derived.Test.YtcaoamccnibihaaDoorDecWalks
namespace Go.Proofs.YtcaoamccnibihaaDoor
open Go.Shelf Go.RowKit

def rren : Go.Shelf.Ren := ⟨fun | 138 => 42 | 143 => 43 | 154 => 38 | 155 => 32 | 165 => 25 | 166 => 44 | 169 => 28 | 195 => 46 | 197 => 45 | 217 => 34 | 218 => 47 | 219 => 48 | 224 => 51 | 225 => 50 | 240 => 35 | 241 => 36 | 260 => 49 | 266 => 39 | 267 => 52 | 276 => 40 | 277 => 41 | 314 => 53 | n => n, fun | 0 => 0 | 3 => 3 | 4 => 4 | 5 => 5 | 9 => 9 | 20 => 20 | 21 => 21 | 37 => 38 | 46 => 54 | 51 => 72 | 70 => 37 | 72 => 40 | 75 => 44 | 76 => 62 | 80 => 46 | 105 => 64 | 119 => 68 | 127 => 55 | 138 => 70 | 139 => 71 | 146 => 73 | 164 => 58 | n => n, fun | 1 => 2 | 3 => 3 | 4 => 4 | n => n⟩
theorem lays155 : Go.Proofs.Lays.n155 Tryd.prog rren := {
  mixed := by kernel_rfl
  f138 := Tryd.func42.trans (congrArg some (by kernel_rfl))
  f143 := Tryd.func43.trans (congrArg some (by kernel_rfl))
  f154 := Tryd.func38.trans (congrArg some (by kernel_rfl))
  f155 := Tryd.func32.trans (congrArg some (by kernel_rfl))
  f165 := Tryd.func25.trans (congrArg some (by kernel_rfl))
  f166 := Tryd.func44.trans (congrArg some (by kernel_rfl))
  f169 := Tryd.func28.trans (congrArg some (by kernel_rfl))
  f195 := Tryd.func46.trans (congrArg some (by kernel_rfl))
  f197 := Tryd.func45.trans (congrArg some (by kernel_rfl))
  f217 := Tryd.func34.trans (congrArg some (by kernel_rfl))
  f218 := Tryd.func47.trans (congrArg some (by kernel_rfl))
  f219 := Tryd.func48.trans (congrArg some (by kernel_rfl))
  f224 := Tryd.func51.trans (congrArg some (by kernel_rfl))
  f225 := Tryd.func50.trans (congrArg some (by kernel_rfl))
  f240 := Tryd.func35.trans (congrArg some (by kernel_rfl))
  f241 := Tryd.func36.trans (congrArg some (by kernel_rfl))
  f260 := Tryd.func49.trans (congrArg some (by kernel_rfl))
  f266 := Tryd.func39.trans (congrArg some (by kernel_rfl))
  f267 := Tryd.func52.trans (congrArg some (by kernel_rfl))
  f276 := Tryd.func40.trans (congrArg some (by kernel_rfl))
  f277 := Tryd.func41.trans (congrArg some (by kernel_rfl))
  f314 := Tryd.func53.trans (congrArg some (by kernel_rfl))
  t0 := Tryd.underlying0
  a0 := Tryd.isAgg0
  z0 := Tryd.sizeOf0
  v0 := Tryd.zeroValue0
  t3 := Tryd.underlying3
  a3 := Tryd.isAgg3
  z3 := Tryd.sizeOf3
  v3 := Tryd.zeroValue3
  t4 := Tryd.underlying4
  a4 := Tryd.isAgg4
  z4 := Tryd.sizeOf4
  v4 := Tryd.zeroValue4
  t5 := Tryd.underlying5
  a5 := Tryd.isAgg5
  z5 := Tryd.sizeOf5
  v5 := Tryd.zeroValue5
  t9 := Tryd.underlying9
  a9 := Tryd.isAgg9
  z9 := Tryd.sizeOf9
  v9 := Tryd.zeroValue9
  t20 := Tryd.underlying20
  a20 := Tryd.isAgg20
  z20 := Tryd.sizeOf20
  v20 := Tryd.zeroValue20
  t21 := Tryd.underlying21
  a21 := Tryd.isAgg21
  z21 := Tryd.sizeOf21
  v21 := Tryd.zeroValue21
  t37 := Tryd.underlying38
  a37 := Tryd.isAgg38
  z37 := Tryd.sizeOf38
  v37 := Tryd.zeroValue38
  t46 := Tryd.underlying54
  a46 := Tryd.isAgg54
  z46 := Tryd.sizeOf54
  v46 := Tryd.zeroValue54
  t51 := Tryd.underlying72
  a51 := Tryd.isAgg72
  z51 := Tryd.sizeOf72
  v51 := Tryd.zeroValue72
  t70 := Tryd.underlying37
  a70 := Tryd.isAgg37
  z70 := Tryd.sizeOf37
  v70 := Tryd.zeroValue37
  t72 := Tryd.underlying40
  a72 := Tryd.isAgg40
  z72 := Tryd.sizeOf40
  v72 := Tryd.zeroValue40
  t75 := Tryd.underlying44
  a75 := Tryd.isAgg44
  z75 := Tryd.sizeOf44
  v75 := Tryd.zeroValue44
  t76 := Tryd.underlying62
  a76 := Tryd.isAgg62
  z76 := Tryd.sizeOf62
  v76 := Tryd.zeroValue62
  t105 := Tryd.underlying64
  a105 := Tryd.isAgg64
  z105 := Tryd.sizeOf64
  v105 := Tryd.zeroValue64
  t119 := Tryd.underlying68
  a119 := Tryd.isAgg68
  z119 := Tryd.sizeOf68
  t127 := Tryd.underlying55
  a127 := Tryd.isAgg55
  z127 := Tryd.sizeOf55
  v127 := Tryd.zeroValue55
  t138 := Tryd.underlying70
  a138 := Tryd.isAgg70
  z138 := Tryd.sizeOf70
  v138 := Tryd.zeroValue70
  t139 := Tryd.underlying71
  a139 := Tryd.isAgg71
  z139 := Tryd.sizeOf71
  v139 := Tryd.zeroValue71
  t146 := Tryd.underlying73
  a146 := Tryd.isAgg73
  z146 := Tryd.sizeOf73
  v146 := Tryd.zeroValue73
  t164 := Tryd.underlying58
  a164 := Tryd.isAgg58
  z164 := Tryd.sizeOf58
  v164 := Tryd.zeroValue58
  g1 := by kernel_rfl
  g3 := by kernel_rfl
  g4 := by kernel_rfl }
theorem extraRep : Builder.Extra Tryd.prog rren := {
  sizeBuilder := by kernel_rfl
  liesBuilder := by kernel_rfl
  t5 := Tryd.underlying5
  a5 := Tryd.isAgg5
  z5 := Tryd.sizeOf5
  v5 := Tryd.zeroValue5
  infoByte := by kernel_rfl
  cellsByte := by kernel_rfl
  sizeByte := by kernel_rfl
  neB5 := by decide }

/-- The library's variable MaxLen holds some number. -/
def SomeMax (w : World) : Prop := ∃ m, w.cell? ⟨2, 0, none⟩ = some (.int .i64 m)
theorem SomeMax.below {w w' : World} (h : SomeMax w) (hb : Below w.heap.size w w') : SomeMax w' := by
  obtain ⟨m, hm⟩ := h
  exact ⟨m, (hb.cell (World.block_lt_of_cell? _ _ hm)).trans hm⟩

theorem replaceAll_any (s old new : ByteArray) (w : World) (hs : s.size ≤ 1073741824) (hm : SomeMax w) (h1 : 1 ≤ old.size) (h2 : new.size = 1) (hne : old.data.toList ≠ new.data.toList) :
    Calls Tryd.prog 32 #[.string s, .string old, .string new] w fun e w' => e = .returned (.string (txt (repA old.data.toList new.data.toList s.data.toList))) ∧ Below w.heap.size w w' := by
  obtain ⟨m, hm⟩ := hm
  have hc := Lib.countB_mul_le old h1 s.size s (Nat.le_refl _)
  have hc2 : Lib.countB s old * new.size ≤ s.size := by
    rw [h2]
    exact Nat.le_trans (Nat.mul_le_mul_left _ h1) hc
  have := Any.strings_ReplaceAll lays155 extraRep s old new m w (by omega) hm h1 (by omega)
  rw [repA_all hne] at this
  exact this

theorem encS_size (set : Int) (s : ByteArray) : (encS set s).size ≤ 3 * s.size := by
  have := encL_len set s.data.toList
  unfold encS; rw [txt_size]; simpa using this
theorem form_text (s : ByteArray) : txt (repA (⟨#[37, 50, 48]⟩ : ByteArray).data.toList (⟨#[43]⟩ : ByteArray).data.toList (encS 7 s).data.toList) = formS s := by
  unfold encS formS; rw [txt_data]; exact congrArg txt (rep_enc s.data.toList)
theorem plus_text (s : ByteArray) : txt (repA (⟨#[43]⟩ : ByteArray).data.toList (⟨#[32]⟩ : ByteArray).data.toList s.data.toList) = txt (unplus s.data.toList) := congrArg txt (rep_plus s.data.toList)

set_option maxHeartbeats 400000 in
theorem form_any (s : ByteArray) (w : World) (hs : s.size ≤ 268435456) (hS : Signs w) (hD : Digs w) (hM : SomeMax w) :
    Calls Tryd.prog 17 #[.string s] w fun r w' => r = .returned (.string (formS s)) ∧ Below w.heap.size w w' := by
  have hE := encode_any s 7 w (by decide) (by omega) hS hD
  have hz := encS_size 7 s
  have hR := fun w hM => replaceAll_any (encS 7 s) ⟨#[37, 50, 48]⟩ ⟨#[43]⟩ w (by omega) hM (by decide) (by decide) (by decide)
  rw [form_text] at hR
  have HE := hide hE
  have HR := hide hR
  have HM := hide hM
  clear hE hR hM hS hD
  go_enter Tryd.func17, Tryd.ntmps17
  go_wp2_with fail
  refine HE.out.mono ?_
  rintro e w1 ⟨rfl, b1⟩
  go_wp2_with fail
  refine (HR.out _ (HM.out.below b1)).mono ?_
  rintro e w2 ⟨rfl, b2⟩
  go_wp2_with fail
  go_ret
  exact ⟨rfl, chain b1 b2⟩

set_option maxHeartbeats 400000 in
theorem unform_any (s : ByteArray) (w : World) (hs : s.size ≤ 1073741824) (hD : Digs w) (hM : SomeMax w) :
    Calls Tryd.prog 19 #[.string s] w fun r w' => r = .returned (.string (unformS s)) ∧ Below w.heap.size w w' := by
  have hR := fun w hM => replaceAll_any s ⟨#[43]⟩ ⟨#[32]⟩ w (by omega) hM (by decide) (by decide) (by decide)
  rw [plus_text] at hR
  have hC := fun w hD => decode_any (txt (unplus s.data.toList)) w (by rw [txt_size]; simp [unplus]; omega) hD
  have HC := hide hC
  have HR := hide hR
  have HM := hide hM
  have HD := hide hD
  clear hC hR hM hD
  go_enter Tryd.func19, Tryd.ntmps19
  go_wp2_with fail
  refine (HR.out _ HM.out).mono ?_
  rintro e w1 ⟨rfl, b1⟩
  go_wp2_with fail
  refine (HC.out _ (HD.out.below b1)).mono ?_
  rintro e w2 ⟨rfl, b2⟩
  go_wp2_with fail
  go_ret
  exact ⟨rfl, chain b1 b2⟩

end Go.Proofs.YtcaoamccnibihaaDoor
