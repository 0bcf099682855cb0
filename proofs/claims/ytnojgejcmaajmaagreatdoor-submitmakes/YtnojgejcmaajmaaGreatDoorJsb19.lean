/- The document's fires, Setting, Method, Kind, Asks of layer 24. A text that is read from the left, escapes as their bytes. The document's Asks, first, Query of layer 24. The name of the attribute that holds a value. A control's value as a function of its kind, its state and its attributes. Controls that are barred from being asked, and their values, as functions of documents and states. States of controls as they lie in the world, behind a slice. The document's Right, Copied, Only of layer 15. One to four digits as a number. The program's Strip and the document's answer by the same function of lists of bytes. -/
import Derived.Test.YtnojgejcmaajmaaGreatDoorJsb7
import Derived.Test.YtnojgejcmaajmaaGreatDoorJsb14

namespace Go.Proofs.YtnojgejcmaajmaaGreatDoor
open Go.RowKit
set_option maxRecDepth 100000
theorem fnd_lenS {ax : List (ByteArray × ByteArray)} {B : Nat} (hz : ∀ a ∈ ax, a.2.size ≤ B) (n : ByteArray) : (fndS ax n).size ≤ B := by
  unfold fndS
  split
  · exact Nat.zero_le _
  · rename_i i e
    obtain ⟨hi, _, _⟩ := List.findIdx?_eq_some_iff_getElem.1 (show ax.findIdx? _ = some i from e)
    rw [show ax.getD i at0 = ax[i] by simp [List.getD, hi]]
    exact hz _ (List.getElem_mem hi)
end Go.Proofs.YtnojgejcmaajmaaGreatDoor

namespace Go.Proofs.YtnojgejcmaajmaaGreatDoor
open Go.RowKit
theorem drop1 (s : ByteArray) (k : Nat) (h : k < s.size) : s.data.toList.drop k = s[k] :: s.data.toList.drop (k + 1) := by
  rw [List.drop_eq_getElem_cons (by simpa using h)]; rfl
end Go.Proofs.YtnojgejcmaajmaaGreatDoor

namespace Go.Proofs.YtnojgejcmaajmaaGreatDoor
open Go.RowKit
set_option maxRecDepth 100000
theorem ne_intS {a c : UInt8} (h : ¬ a = c) : ((a.toNat : Int) == (c.toNat : Int)) = false := by
  rw [beq_eq_false_iff_ne]; intro e; exact h (UInt8.toNat_inj.1 (by omega))
end Go.Proofs.YtnojgejcmaajmaaGreatDoor

namespace Go.Proofs.YtnojgejcmaajmaaGreatDoor
open Go.RowKit
def valS : ByteArray := ⟨#[118, 97, 108, 117, 101]⟩
end Go.Proofs.YtnojgejcmaajmaaGreatDoor

namespace Go.Proofs.YtnojgejcmaajmaaGreatDoor
open Go.RowKit
def onS : ByteArray := ⟨#[111, 110]⟩
def fakeS : ByteArray := ⟨#[67, 58, 92, 102, 97, 107, 101, 112, 97, 116, 104, 92]⟩
def isPush (k : Int) : Bool := decide (25 ≤ k ∧ k ≤ 27)
def fileT (fs : List En) : ByteArray := match fs with
  | [] => ⟨#[]⟩
  | e :: _ => fakeS ++ e.fname
def valueP (k : Int) (c : Ct) (ax : List (ByteArray × ByteArray)) : ByteArray :=
  if modeV k = 1 then c.val else if modeV k = 2 then fndS ax valS else if modeV k = 3 then (if (findA ax valS).isSome then fndS ax valS else onS)
  else if modeV k = 4 then fileT c.files else if isPush k = true then fndS ax valS else ⟨#[]⟩
end Go.Proofs.YtnojgejcmaajmaaGreatDoor

namespace Go.Proofs.YtnojgejcmaajmaaGreatDoor
open Go.RowKit
def valE (l : List Nd) (C : List Ct) (i : Int) : ByteArray := if kI l i = 23 then valueO l C i else valueP (kI l i) (st C i) (nd l i.toNat).attrs
def valN (l : List Nd) (C : List Ct) (i : Int) : ByteArray := if rightD l C = true ∧ hasN l i = true then valE l C i else ⟨#[]⟩
end Go.Proofs.YtnojgejcmaajmaaGreatDoor

namespace Go.Proofs.YtnojgejcmaajmaaGreatDoor
open Go.RowKit
set_option maxRecDepth 100000
theorem cellsC_len : ∀ {C : List Ct} {F : List Value}, F.length = C.length → (cellsC C F).length = C.length * 10
  | [], _, _ => by simp [cellsC]
  | c :: C, [], h => by cases h
  | c :: C, f :: F, h => by
    show (ctCells c f ++ cellsC C F).length = _
    rw [List.length_append, cellsC_len (C := C) (F := F) (by simpa using h), List.length_cons]
    show 10 + _ = _
    omega
theorem cellsC_set : ∀ {C : List Ct} {F : List Value} {i : Nat} (_ : F.length = C.length) (h : i < C.length) {j : Nat} {u : Value} {c' : Ct}, j < 10 → (ctCells C[i] (fvAt F i)).set j u = ctCells c' (fvAt F i) → (cellsC C F).set (i * 10 + j) u = cellsC (C.set i c') F
  | c :: C, [], _, hF, _, _, _, _, _, _ => by cases hF
  | c :: C, f :: F, 0, _, _, j, u, c', hj, e => by
    show (ctCells c f ++ cellsC C F).set (0 * 10 + j) u = ctCells c' f ++ cellsC C F
    rw [List.set_append_left _ _ (by show _ < 10; omega), Nat.zero_mul, Nat.zero_add]
    have e : (ctCells c f).set j u = ctCells c' f := e
    rw [e]
  | c :: C, f :: F, i + 1, hF, h, j, u, c', hj, e => by
    show (ctCells c f ++ cellsC C F).set ((i + 1) * 10 + j) u = ctCells c f ++ cellsC (C.set i c') F
    rw [List.set_append_right _ _ (by show 10 ≤ _; omega), show (i + 1) * 10 + j - (ctCells c f).length = i * 10 + j by show (i + 1) * 10 + j - 10 = _; omega]
    rw [fvAt_cons] at e
    rw [cellsC_set (C := C) (F := F) (by simpa using hF) (by simpa using h) hj e]
theorem cellsC_one {w : World} : ∀ {C : List Ct} {F : List Value}, FilesIn w C F → ∀ u ∈ cellsC C F, u.oneCell' = true
  | [], _, _, u, hu => by simp [cellsC] at hu
  | c :: C, [], h, _, _ => by have := h.len; cases this
  | c :: C, f :: F, h, u, hu => by
    have hu : u ∈ ctCells c f ++ cellsC C F := hu
    rcases List.mem_append.1 hu with q | q
    · obtain ⟨p, k, e, _⟩ : FilesV w f c.files := h.at_ 0 (by simp)
      have e : f = .slice p c.files.length k := e
      simp only [ctCells, List.mem_cons, List.not_mem_nil, or_false] at q
      rcases q with rfl | rfl | rfl | rfl | rfl | rfl | rfl | rfl | rfl | rfl
      all_goals first | rfl | (rw [e]; rfl)
    · exact cellsC_one (C := C) (F := F) ⟨by have := h.len; simpa using this, fun i hi => by have := h.at_ (i + 1) (by simpa using hi); rw [fvAt_cons] at this; exact this⟩ u q
theorem cts_nil (w : World) : CtsV w (.slice none 0 0) [] := ⟨[], ⟨rfl, fun i h => by cases h⟩, none, 0, rfl, .inl rfl⟩
theorem CtsF.raw {w : World} {v : Value} {C : List Ct} {F : List Value} (h : CtsF w v C F) : Raw w 10 v C.length (cellsC C F) := by
  obtain ⟨hf, p, k, rfl, h⟩ := h
  refine ⟨cellsC_len hf.len, p, k, rfl, ?_⟩
  rcases h with rfl | ⟨b, o, rfl, h⟩
  · exact .inl rfl
  · refine .inr ⟨b, o, rfl, fun j u hu => ?_⟩
    have hj : j < C.length * 10 := by have := (List.getElem?_eq_some_iff.1 hu).1; rwa [cellsC_len hf.len] at this
    have hi : j / 10 < C.length := by omega
    have hd := cellsC_at hf.len hi (j := j % 10) (by omega)
    rw [show j / 10 * 10 + j % 10 = j by omega] at hd
    have := h (j / 10) hi (j % 10) u (by rw [← hd]; exact hu)
    rwa [show o + j / 10 * 10 + j % 10 = o + j by omega] at this
/-- States that a statement takes. -/
structure CsOK (C : List Ct) : Prop where
  len : C.length ≤ 2199023255552
  fs : ∀ c ∈ C, FsOK c.files
  tx : ∀ c ∈ C, c.val.size ≤ 140737488355328 ∧ c.custom.size ≤ 140737488355328
/-- One cell of a state is stored into. -/
theorem CtsO.put {base : Nat} {w : World} {v : Value} {C : List Ct} {F : List Value} (h : CtsO base w v C F) {g : Nat} (hg : v.ownBlock = some g) {i : Nat} (hi : i < C.length) {j : Nat} (hj : j < 10) {u : Value} {c' : Ct} (e : (ctCells C[i] (fvAt F i)).set j u = ctCells c' (fvAt F i)) :
    CtsO base (w.setCell ⟨g, i * 10 + j, none⟩ u) v (C.set i c') F := by
  have r := owns_set h.row hg (i * 10 + j) u
  rw [cellsC_set h.len hi hj e] at r
  exact ⟨by rw [List.length_set]; exact h.len, by rw [List.length_set]; exact r⟩
end Go.Proofs.YtnojgejcmaajmaaGreatDoor

namespace Go.Proofs.YtnojgejcmaajmaaGreatDoor
open Go.RowKit
set_option maxRecDepth 100000
theorem infoC : (Tryz.prog.info? 113).map (fun i => (i.zero, i.size, i.bytes)) = some (some (.agg #[.string ⟨#[]⟩, .bool false, .bool false, .bool false, .bool false, .bool false, .bool false, .bool false, .string ⟨#[]⟩, .slice none 0 0]), 10, 64) := by kernel_rfl
theorem cts_form {w : World} {v : Value} {C : List Ct} (h : CtsV w v C) : ∃ p k, v = .slice p C.length k := by
  obtain ⟨F, _, p, k, e, _⟩ := h
  exact ⟨p, k, e⟩
theorem nds_form {w : World} {v : Value} {l : List Nd} (h : NodesV w v l) : ∃ p k, v = .slice p l.length k := by
  obtain ⟨p, k, e, _⟩ := h
  exact ⟨p, k, e⟩
set_option maxHeartbeats 8000000 in
theorem refOCopied_any (v : Value) (C : List Ct) (F : List Value) (w : World) (hv : CtsF w v C F) (hC : CsOK C) :
    Calls Tryz.prog 32 #[v] w fun e w' => ∃ v', e = .returned v' ∧ CtsO w.heap.size w' v' C F ∧ Below w.heap.size w w' := by
  have RW := hide hv.raw
  have ONE := hide (cellsC_one hv.1)
  have HF := hide hv.1
  have hl := hC.len
  obtain ⟨iC, hI0, hI1, hI2, hI3⟩ := info_parts infoC
  obtain ⟨p, c, rfl⟩ := cts_form ⟨F, hv⟩
  clear hv hC
  go_enter Tryz.func32, Tryz.ntmps32
  go_wp2_with (at_builtin; refine wpList_append_raw rfl _ _ _ rfl w.heap.size 113 iC _ 10 64 Tryz.underlying23 hI0 hI1 hI2 hI3 rfl (by omega) (.slice none 0 0) 0 [] rfl (World.ownsRow_nil _ _ _ _) _ C.length (cellsC C F) rfl RW.out ONE.out (by unfold maxLen; omega) (by omega) (Nat.le_refl _) ?_; intro q1 c1 w1 own1 gr1 at1)
  rw [Nat.zero_add] at own1 at1
  rw [List.nil_append] at own1
  have B1 : Hid (Below w.heap.size w w1) := (Chg.of_grown gr1).none (fun k q => by simp [Value.ownBlock] at q)
  have O1 : Hid (CtsO w.heap.size w1 (.slice q1 C.length c1) C F) := ⟨HF.out.len, own1⟩
  clear own1 gr1 at1 RW ONE
  go_ret
  exact ⟨_, rfl, O1.out, B1.out⟩
theorem CtsO.form {base : Nat} {w : World} {v : Value} {C : List Ct} {F : List Value} (h : CtsO base w v C F) : ∃ p k, v = .slice p C.length k ∧ C.length ≤ k := by
  rcases h.row.2 with ⟨e, q⟩ | ⟨g, cap, cur, e, hb, hg, h1, h2, _⟩
  · exact ⟨none, 0, by rw [e, q], by omega⟩
  · exact ⟨_, cap, e, h1⟩
end Go.Proofs.YtnojgejcmaajmaaGreatDoor

namespace Go.Proofs.YtnojgejcmaajmaaGreatDoor
open Go.RowKit
theorem size_text {l : List Nd} (h : Right l) : ∀ (ks : List Int) (s : ByteArray), (∀ c ∈ ks, 0 ≤ c ∧ c < (l.length : Int)) → (textF l s ks).size ≤ s.size + 4000 * ks.length
  | [], s, _ => by show s.size ≤ _; omega
  | c :: t, s, hc => by
    have h1 := hc c (List.mem_cons_self ..)
    have := size_text h t (s ++ (nd l c.toNat).text) (fun x hx => hc x (List.mem_cons_of_mem _ hx))
    have h2 := text_small h (i := c.toNat) (by omega)
    rw [ByteArray.size_append] at this
    show (textF l (s ++ (nd l c.toNat).text) t).size ≤ _
    rw [List.length_cons]; omega
theorem textP_small {l : List Nd} (h : Right l) {m : Nat} (hm : m < l.length) : (textP l (m : Int)).size ≤ 1604000 := by
  have h1 := size_text h (nd l m).kids (nd l m).text (fun c hc => by have := h.kid m hm c hc; exact ⟨this.1, this.2.1⟩)
  have h2 := text_small h hm
  have h3 := kids_few h hm
  unfold textP
  rw [Int.toNat_natCast]; omega
end Go.Proofs.YtnojgejcmaajmaaGreatDoor

namespace Go.Proofs.YtnojgejcmaajmaaGreatDoor
open Go.Shelf
open Go.RowKit
set_option maxRecDepth 100000
def sren : Go.Shelf.Ren := ⟨fun | 119 => 251 | 120 => 261 | 137 => 235 | 151 => 259 | 152 => 242 | 160 => 252 | 197 => 214 | 217 => 208 | 224 => 210 | 225 => 209 | 227 => 244 | 228 => 245 | 231 => 253 | 232 => 254 | 233 => 255 | 234 => 256 | 235 => 257 | 236 => 258 | 260 => 241 | 266 => 238 | 271 => 260 | n => n, fun | 0 => 0 | 3 => 3 | 4 => 4 | 5 => 5 | 9 => 9 | 21 => 21 | 46 => 171 | 72 => 94 | 105 => 173 | 116 => 190 | 117 => 191 | 119 => 193 | 124 => 198 | 138 => 195 | 139 => 196 | n => n, fun | 3 => 6 | 4 => 7 | n => n⟩
theorem lays160 : Go.Proofs.Lays.n160 Tryz.prog sren := {
  mixed := by kernel_rfl
  f119 := Tryz.func251.trans (congrArg some (by kernel_rfl))
  f120 := Tryz.func261.trans (congrArg some (by kernel_rfl))
  f137 := Tryz.func235.trans (congrArg some (by kernel_rfl))
  f151 := Tryz.func259.trans (congrArg some (by kernel_rfl))
  f152 := Tryz.func242.trans (congrArg some (by kernel_rfl))
  f160 := Tryz.func252.trans (congrArg some (by kernel_rfl))
  f197 := Tryz.func214.trans (congrArg some (by kernel_rfl))
  f217 := Tryz.func208.trans (congrArg some (by kernel_rfl))
  f224 := Tryz.func210.trans (congrArg some (by kernel_rfl))
  f225 := Tryz.func209.trans (congrArg some (by kernel_rfl))
  f227 := Tryz.func244.trans (congrArg some (by kernel_rfl))
  f228 := Tryz.func245.trans (congrArg some (by kernel_rfl))
  f231 := Tryz.func253.trans (congrArg some (by kernel_rfl))
  f232 := Tryz.func254.trans (congrArg some (by kernel_rfl))
  f233 := Tryz.func255.trans (congrArg some (by kernel_rfl))
  f234 := Tryz.func256.trans (congrArg some (by kernel_rfl))
  f235 := Tryz.func257.trans (congrArg some (by kernel_rfl))
  f236 := Tryz.func258.trans (congrArg some (by kernel_rfl))
  f260 := Tryz.func241.trans (congrArg some (by kernel_rfl))
  f266 := Tryz.func238.trans (congrArg some (by kernel_rfl))
  f271 := Tryz.func260.trans (congrArg some (by kernel_rfl))
  t0 := Tryz.underlying0
  a0 := Tryz.isAgg0
  z0 := Tryz.sizeOf0
  v0 := Tryz.zeroValue0
  t3 := Tryz.underlying3
  a3 := Tryz.isAgg3
  z3 := Tryz.sizeOf3
  v3 := Tryz.zeroValue3
  t4 := Tryz.underlying4
  a4 := Tryz.isAgg4
  z4 := Tryz.sizeOf4
  v4 := Tryz.zeroValue4
  t5 := Tryz.underlying5
  a5 := Tryz.isAgg5
  z5 := Tryz.sizeOf5
  v5 := Tryz.zeroValue5
  t9 := Tryz.underlying9
  a9 := Tryz.isAgg9
  z9 := Tryz.sizeOf9
  v9 := Tryz.zeroValue9
  t21 := Tryz.underlying21
  a21 := Tryz.isAgg21
  z21 := Tryz.sizeOf21
  v21 := Tryz.zeroValue21
  t46 := Tryz.underlying171
  a46 := Tryz.isAgg171
  z46 := Tryz.sizeOf171
  v46 := Tryz.zeroValue171
  t105 := Tryz.underlying173
  a105 := Tryz.isAgg173
  z105 := Tryz.sizeOf173
  v105 := Tryz.zeroValue173
  t116 := Tryz.underlying190
  a116 := Tryz.isAgg190
  z116 := Tryz.sizeOf190
  t117 := Tryz.underlying191
  a117 := Tryz.isAgg191
  z117 := Tryz.sizeOf191
  v117 := Tryz.zeroValue191
  t119 := Tryz.underlying193
  a119 := Tryz.isAgg193
  z119 := Tryz.sizeOf193
  t124 := Tryz.underlying198
  a124 := Tryz.isAgg198
  z124 := Tryz.sizeOf198
  v124 := Tryz.zeroValue198
  t138 := Tryz.underlying195
  a138 := Tryz.isAgg195
  z138 := Tryz.sizeOf195
  v138 := Tryz.zeroValue195
  t139 := Tryz.underlying196
  a139 := Tryz.isAgg196
  z139 := Tryz.sizeOf196
  v139 := Tryz.zeroValue196
  g3 := by kernel_rfl
  g4 := by kernel_rfl }
theorem blanks_ascii : ∀ (j : Nat) b, (⟨#[9, 10, 12, 13, 32]⟩ : ByteArray).data.toList[j]? = some b → b.toNat < 128 := ascii_of_all (by decide)
theorem trim_any (s : ByteArray) (w : World) (hs : s.size ≤ 281474976710656) :
    Calls Tryz.prog 252 #[.string s, .string ⟨#[9, 10, 12, 13, 32]⟩] w fun e w' => e = .returned (.string (stripS s)) ∧ Below w.heap.size w w' :=
  Any.strings_Trim_laid lays160 (by kernel_rfl) s ⟨#[9, 10, 12, 13, 32]⟩ w (by omega) (by decide) blanks_ascii
set_option maxHeartbeats 400000 in
theorem strip_any (s : ByteArray) (w : World) (hs : s.size ≤ 281474976710656) :
    Calls Tryz.prog 248 #[.string s] w fun e w' => e = .returned (.string (stripS s)) ∧ Below w.heap.size w w' := by
  have hz := stripS_size s
  go_enter Tryz.func248, Tryz.ntmps248
  go_wp2_with fail
  refine (trim_any s _ hs).mono ?_
  rintro e w1 ⟨rfl, b1⟩
  go_wp2_with fail
  refine (clone_any _ _ (Nat.le_trans hz hs)).mono ?_
  rintro e w2 ⟨rfl, b2⟩
  go_wp2_with fail
  go_ret
  exact ⟨rfl, chain b1 b2⟩

end Go.Proofs.YtnojgejcmaajmaaGreatDoor
