/- Joined texts. CleanR2: The document's Value of layer 13: what a value becomes, by 'CleanIs'; what lay in the world lies there still. Conditions: a row of attributes as it lies in the world; texts of at most 100000 bytes. -/
import Derived.Test.YtpkpkpiphgjbaaaGreatDoorJcl16
import Derived.Test.YtpkpkpiphgjbaaaGreatDoorJcl25
import Derived.Test.YtpkpkpiphgjbaaaGreatDoorJcl27
namespace Go.Proofs.YtpkpkpiphgjbaaaGreatDoor
open Go.RowKit

set_option maxHeartbeats 8000000 in
set_option maxRecDepth 100000 in
theorem refClean_2 (v : Value) (ax : List (ByteArray × ByteArray)) (w : World) (hv : AttrsV w v ax) (_hz : AxOK ax) (s : ByteArray)  (hs : s.size ≤ 100000) :
    Calls Tryz.prog 11 #[.int .i64 2, v, .string s] w fun e w' => e = .returned (.string (txt (noBrL s.data.toList))) ∧ Below w.heap.size w w' := by
  have HV := hide (refValue_any 2 s w hs)
  have HN := hide (fun W => refNoBreaks_any s W (by omega))
  obtain ⟨p, c, rfl, _⟩ := hv
  unfold optV at HV
  generalize optI (numK 2 s.data.toList) = vn at *
  generalize (numK 2 s.data.toList).isSome = vb at *
  clear hs
  go_enter Tryz.func11, Tryz.ntmps11
  go_wp2_with fail
  refine HV.out.mono ?_
  rintro e w1 ⟨rfl, b1⟩
  go_wp2_with fail
  refine (HN.out _).mono ?_
  rintro e w2 ⟨rfl, b2⟩
  go_wp2_with fail
  go_ret
  exact ⟨rfl, chain b1 b2⟩

set_option maxHeartbeats 8000000 in
set_option maxRecDepth 100000 in
theorem refClean_3 (v : Value) (ax : List (ByteArray × ByteArray)) (w : World) (hv : AttrsV w v ax) (_hz : AxOK ax) (s : ByteArray)  (hs : s.size ≤ 100000) :
    Calls Tryz.prog 11 #[.int .i64 3, v, .string s] w fun e w' => e = .returned (.string (txt (noBrL s.data.toList))) ∧ Below w.heap.size w w' := by
  have HV := hide (refValue_any 3 s w hs)
  have HN := hide (fun W => refNoBreaks_any s W (by omega))
  obtain ⟨p, c, rfl, _⟩ := hv
  unfold optV at HV
  generalize optI (numK 3 s.data.toList) = vn at *
  generalize (numK 3 s.data.toList).isSome = vb at *
  clear hs
  go_enter Tryz.func11, Tryz.ntmps11
  go_wp2_with fail
  refine HV.out.mono ?_
  rintro e w1 ⟨rfl, b1⟩
  go_wp2_with fail
  refine (HN.out _).mono ?_
  rintro e w2 ⟨rfl, b2⟩
  go_wp2_with fail
  go_ret
  exact ⟨rfl, chain b1 b2⟩

set_option maxHeartbeats 8000000 in
set_option maxRecDepth 100000 in
theorem refClean_4 (v : Value) (ax : List (ByteArray × ByteArray)) (w : World) (hv : AttrsV w v ax) (_hz : AxOK ax) (s : ByteArray)  (hs : s.size ≤ 100000) :
    Calls Tryz.prog 11 #[.int .i64 4, v, .string s] w fun e w' => e = .returned (.string (txt (noBrL s.data.toList))) ∧ Below w.heap.size w w' := by
  have HV := hide (refValue_any 4 s w hs)
  have HN := hide (fun W => refNoBreaks_any s W (by omega))
  obtain ⟨p, c, rfl, _⟩ := hv
  unfold optV at HV
  generalize optI (numK 4 s.data.toList) = vn at *
  generalize (numK 4 s.data.toList).isSome = vb at *
  clear hs
  go_enter Tryz.func11, Tryz.ntmps11
  go_wp2_with fail
  refine HV.out.mono ?_
  rintro e w1 ⟨rfl, b1⟩
  go_wp2_with fail
  refine (HN.out _).mono ?_
  rintro e w2 ⟨rfl, b2⟩
  go_wp2_with fail
  go_ret
  exact ⟨rfl, chain b1 b2⟩

set_option maxHeartbeats 8000000 in
set_option maxRecDepth 100000 in
theorem refClean_7 (v : Value) (ax : List (ByteArray × ByteArray)) (w : World) (hv : AttrsV w v ax) (_hz : AxOK ax) (s : ByteArray)  (hs : s.size ≤ 100000) :
    Calls Tryz.prog 11 #[.int .i64 7, v, .string s] w fun e w' => e = .returned (.string (txt (noBrL s.data.toList))) ∧ Below w.heap.size w w' := by
  have HV := hide (refValue_any 7 s w hs)
  have HN := hide (fun W => refNoBreaks_any s W (by omega))
  obtain ⟨p, c, rfl, _⟩ := hv
  unfold optV at HV
  generalize optI (numK 7 s.data.toList) = vn at *
  generalize (numK 7 s.data.toList).isSome = vb at *
  clear hs
  go_enter Tryz.func11, Tryz.ntmps11
  go_wp2_with fail
  refine HV.out.mono ?_
  rintro e w1 ⟨rfl, b1⟩
  go_wp2_with fail
  refine (HN.out _).mono ?_
  rintro e w2 ⟨rfl, b2⟩
  go_wp2_with fail
  go_ret
  exact ⟨rfl, chain b1 b2⟩

set_option maxHeartbeats 8000000 in
set_option maxRecDepth 100000 in
theorem refClean_5 (v : Value) (ax : List (ByteArray × ByteArray)) (w : World) (hv : AttrsV w v ax) (_hz : AxOK ax) (s : ByteArray)  (hs : s.size ≤ 100000) :
    Calls Tryz.prog 11 #[.int .i64 5, v, .string s] w fun e w' => e = .returned (.string (txt (trimM s.data.toList))) ∧ Below w.heap.size w w' := by
  have HV := hide (refValue_any 5 s w hs)
  have HN := hide (fun W => refTrim_any s W (by omega))
  obtain ⟨p, c, rfl, _⟩ := hv
  unfold optV at HV
  generalize optI (numK 5 s.data.toList) = vn at *
  generalize (numK 5 s.data.toList).isSome = vb at *
  clear hs
  go_enter Tryz.func11, Tryz.ntmps11
  go_wp2_with fail
  refine HV.out.mono ?_
  rintro e w1 ⟨rfl, b1⟩
  go_wp2_with fail
  refine (HN.out _).mono ?_
  rintro e w2 ⟨rfl, b2⟩
  go_wp2_with fail
  go_ret
  exact ⟨rfl, chain b1 b2⟩

set_option maxHeartbeats 8000000 in
set_option maxRecDepth 100000 in
theorem refClean_6y (v : Value) (ax : List (ByteArray × ByteArray)) (w : World) (hv : AttrsV w v ax) (hz : AxOK ax) (s : ByteArray) (i : Nat) (hf : findA ax ⟨#[109, 117, 108, 116, 105, 112, 108, 101]⟩ = some i) (hs : s.size ≤ 100000) :
    Calls Tryz.prog 11 #[.int .i64 6, v, .string s] w fun e w' => e = .returned (.string (txt (cleanM s.data.toList))) ∧ Below w.heap.size w w' := by
  have HV := hide (refValue_any 6 s w hs)
  have HN := hide (fun W => refCleanM_any s W (by omega))
  have HF := hide (fun W (hb : Below w.heap.size w W) => refFind_any v ax multS W (hv.below hb) hz.len)
  rw [show multS = ⟨#[109, 117, 108, 116, 105, 112, 108, 101]⟩ from rfl] at HF
  rw [hf, show findV (some i) = (i : Int) from rfl] at HF
  have i0 : (0 : Int) ≤ (i : Int) := by omega
  clear hf
  obtain ⟨p, c, rfl, _⟩ := hv
  unfold optV at HV
  generalize optI (numK 6 s.data.toList) = vn at *
  generalize (numK 6 s.data.toList).isSome = vb at *
  clear hz hs
  go_enter Tryz.func11, Tryz.ntmps11
  go_wp2_with fail
  refine HV.out.mono ?_
  rintro e w1 ⟨rfl, b1⟩
  go_wp2_with fail
  refine (HF.out _ b1).mono ?_
  rintro e w9 ⟨rfl, h9⟩
  obtain rfl : w1 = w9 := h9.symm
  go_wp2_with fail
  refine (HN.out _).mono ?_
  rintro e w2 ⟨rfl, b2⟩
  go_wp2_with fail
  go_ret
  exact ⟨rfl, chain b1 b2⟩

set_option maxHeartbeats 8000000 in
set_option maxRecDepth 100000 in
theorem refClean_6n (v : Value) (ax : List (ByteArray × ByteArray)) (w : World) (hv : AttrsV w v ax) (hz : AxOK ax) (s : ByteArray) (hf : findA ax ⟨#[109, 117, 108, 116, 105, 112, 108, 101]⟩ = none) (hs : s.size ≤ 100000) :
    Calls Tryz.prog 11 #[.int .i64 6, v, .string s] w fun e w' => e = .returned (.string (txt (trimM s.data.toList))) ∧ Below w.heap.size w w' := by
  have HV := hide (refValue_any 6 s w hs)
  have HN := hide (fun W => refTrim_any s W (by omega))
  have HF := hide (fun W (hb : Below w.heap.size w W) => refFind_any v ax multS W (hv.below hb) hz.len)
  rw [show multS = ⟨#[109, 117, 108, 116, 105, 112, 108, 101]⟩ from rfl] at HF
  rw [hf, show findV none = -1 from rfl] at HF
  clear hf
  obtain ⟨p, c, rfl, _⟩ := hv
  unfold optV at HV
  generalize optI (numK 6 s.data.toList) = vn at *
  generalize (numK 6 s.data.toList).isSome = vb at *
  clear hz hs
  go_enter Tryz.func11, Tryz.ntmps11
  go_wp2_with fail
  refine HV.out.mono ?_
  rintro e w1 ⟨rfl, b1⟩
  go_wp2_with fail
  refine (HF.out _ b1).mono ?_
  rintro e w9 ⟨rfl, h9⟩
  obtain rfl : w1 = w9 := h9.symm
  go_wp2_with fail
  refine (HN.out _).mono ?_
  rintro e w2 ⟨rfl, b2⟩
  go_wp2_with fail
  go_ret
  exact ⟨rfl, chain b1 b2⟩

set_option maxHeartbeats 8000000 in
set_option maxRecDepth 100000 in
theorem refClean_8y (v : Value) (ax : List (ByteArray × ByteArray)) (w : World) (hv : AttrsV w v ax) (_hz : AxOK ax) (s : ByteArray) (hb : (numK 8 s.data.toList).isSome = true) (hs : s.size ≤ 100000) :
    Calls Tryz.prog 11 #[.int .i64 8, v, .string s] w fun e w' => e = .returned (.string s) ∧ Below w.heap.size w w' := by
  have HV := hide (refValue_any 8 s w hs)
  obtain ⟨p, c, rfl, _⟩ := hv
  unfold optV at HV
  generalize optI (numK 8 s.data.toList) = vn at *
  generalize (numK 8 s.data.toList).isSome = vb at *
  subst hb
  clear hs
  go_enter Tryz.func11, Tryz.ntmps11
  go_wp2_with fail
  refine HV.out.mono ?_
  rintro e w1 ⟨rfl, b1⟩
  go_wp2_with fail
  go_ret
  exact ⟨rfl, b1⟩

set_option maxHeartbeats 8000000 in
set_option maxRecDepth 100000 in
theorem refClean_8n (v : Value) (ax : List (ByteArray × ByteArray)) (w : World) (hv : AttrsV w v ax) (_hz : AxOK ax) (s : ByteArray) (hb : (numK 8 s.data.toList).isSome = false) (hs : s.size ≤ 100000) :
    Calls Tryz.prog 11 #[.int .i64 8, v, .string s] w fun e w' => e = .returned (.string ⟨#[]⟩) ∧ Below w.heap.size w w' := by
  have HV := hide (refValue_any 8 s w hs)
  obtain ⟨p, c, rfl, _⟩ := hv
  unfold optV at HV
  generalize optI (numK 8 s.data.toList) = vn at *
  generalize (numK 8 s.data.toList).isSome = vb at *
  subst hb
  clear hs
  go_enter Tryz.func11, Tryz.ntmps11
  go_wp2_with fail
  refine HV.out.mono ?_
  rintro e w1 ⟨rfl, b1⟩
  go_wp2_with fail
  go_ret
  exact ⟨rfl, b1⟩

set_option maxHeartbeats 8000000 in
set_option maxRecDepth 100000 in
theorem refClean_9y (v : Value) (ax : List (ByteArray × ByteArray)) (w : World) (hv : AttrsV w v ax) (_hz : AxOK ax) (s : ByteArray) (hb : (numK 9 s.data.toList).isSome = true) (hs : s.size ≤ 100000) :
    Calls Tryz.prog 11 #[.int .i64 9, v, .string s] w fun e w' => e = .returned (.string s) ∧ Below w.heap.size w w' := by
  have HV := hide (refValue_any 9 s w hs)
  obtain ⟨p, c, rfl, _⟩ := hv
  unfold optV at HV
  generalize optI (numK 9 s.data.toList) = vn at *
  generalize (numK 9 s.data.toList).isSome = vb at *
  subst hb
  clear hs
  go_enter Tryz.func11, Tryz.ntmps11
  go_wp2_with fail
  refine HV.out.mono ?_
  rintro e w1 ⟨rfl, b1⟩
  go_wp2_with fail
  go_ret
  exact ⟨rfl, b1⟩

set_option maxHeartbeats 8000000 in
set_option maxRecDepth 100000 in
theorem refClean_9n (v : Value) (ax : List (ByteArray × ByteArray)) (w : World) (hv : AttrsV w v ax) (_hz : AxOK ax) (s : ByteArray) (hb : (numK 9 s.data.toList).isSome = false) (hs : s.size ≤ 100000) :
    Calls Tryz.prog 11 #[.int .i64 9, v, .string s] w fun e w' => e = .returned (.string ⟨#[]⟩) ∧ Below w.heap.size w w' := by
  have HV := hide (refValue_any 9 s w hs)
  obtain ⟨p, c, rfl, _⟩ := hv
  unfold optV at HV
  generalize optI (numK 9 s.data.toList) = vn at *
  generalize (numK 9 s.data.toList).isSome = vb at *
  subst hb
  clear hs
  go_enter Tryz.func11, Tryz.ntmps11
  go_wp2_with fail
  refine HV.out.mono ?_
  rintro e w1 ⟨rfl, b1⟩
  go_wp2_with fail
  go_ret
  exact ⟨rfl, b1⟩

set_option maxHeartbeats 8000000 in
set_option maxRecDepth 100000 in
theorem refClean_10y (v : Value) (ax : List (ByteArray × ByteArray)) (w : World) (hv : AttrsV w v ax) (_hz : AxOK ax) (s : ByteArray) (hb : (numK 10 s.data.toList).isSome = true) (hs : s.size ≤ 100000) :
    Calls Tryz.prog 11 #[.int .i64 10, v, .string s] w fun e w' => e = .returned (.string s) ∧ Below w.heap.size w w' := by
  have HV := hide (refValue_any 10 s w hs)
  obtain ⟨p, c, rfl, _⟩ := hv
  unfold optV at HV
  generalize optI (numK 10 s.data.toList) = vn at *
  generalize (numK 10 s.data.toList).isSome = vb at *
  subst hb
  clear hs
  go_enter Tryz.func11, Tryz.ntmps11
  go_wp2_with fail
  refine HV.out.mono ?_
  rintro e w1 ⟨rfl, b1⟩
  go_wp2_with fail
  go_ret
  exact ⟨rfl, b1⟩

set_option maxHeartbeats 8000000 in
set_option maxRecDepth 100000 in
theorem refClean_10n (v : Value) (ax : List (ByteArray × ByteArray)) (w : World) (hv : AttrsV w v ax) (_hz : AxOK ax) (s : ByteArray) (hb : (numK 10 s.data.toList).isSome = false) (hs : s.size ≤ 100000) :
    Calls Tryz.prog 11 #[.int .i64 10, v, .string s] w fun e w' => e = .returned (.string ⟨#[]⟩) ∧ Below w.heap.size w w' := by
  have HV := hide (refValue_any 10 s w hs)
  obtain ⟨p, c, rfl, _⟩ := hv
  unfold optV at HV
  generalize optI (numK 10 s.data.toList) = vn at *
  generalize (numK 10 s.data.toList).isSome = vb at *
  subst hb
  clear hs
  go_enter Tryz.func11, Tryz.ntmps11
  go_wp2_with fail
  refine HV.out.mono ?_
  rintro e w1 ⟨rfl, b1⟩
  go_wp2_with fail
  go_ret
  exact ⟨rfl, b1⟩

set_option maxHeartbeats 8000000 in
set_option maxRecDepth 100000 in
theorem refClean_11y (v : Value) (ax : List (ByteArray × ByteArray)) (w : World) (hv : AttrsV w v ax) (_hz : AxOK ax) (s : ByteArray) (hb : (numK 11 s.data.toList).isSome = true) (hs : s.size ≤ 100000) :
    Calls Tryz.prog 11 #[.int .i64 11, v, .string s] w fun e w' => e = .returned (.string s) ∧ Below w.heap.size w w' := by
  have HV := hide (refValue_any 11 s w hs)
  obtain ⟨p, c, rfl, _⟩ := hv
  unfold optV at HV
  generalize optI (numK 11 s.data.toList) = vn at *
  generalize (numK 11 s.data.toList).isSome = vb at *
  subst hb
  clear hs
  go_enter Tryz.func11, Tryz.ntmps11
  go_wp2_with fail
  refine HV.out.mono ?_
  rintro e w1 ⟨rfl, b1⟩
  go_wp2_with fail
  go_ret
  exact ⟨rfl, b1⟩

set_option maxHeartbeats 8000000 in
set_option maxRecDepth 100000 in
theorem refClean_11n (v : Value) (ax : List (ByteArray × ByteArray)) (w : World) (hv : AttrsV w v ax) (_hz : AxOK ax) (s : ByteArray) (hb : (numK 11 s.data.toList).isSome = false) (hs : s.size ≤ 100000) :
    Calls Tryz.prog 11 #[.int .i64 11, v, .string s] w fun e w' => e = .returned (.string ⟨#[]⟩) ∧ Below w.heap.size w w' := by
  have HV := hide (refValue_any 11 s w hs)
  obtain ⟨p, c, rfl, _⟩ := hv
  unfold optV at HV
  generalize optI (numK 11 s.data.toList) = vn at *
  generalize (numK 11 s.data.toList).isSome = vb at *
  subst hb
  clear hs
  go_enter Tryz.func11, Tryz.ntmps11
  go_wp2_with fail
  refine HV.out.mono ?_
  rintro e w1 ⟨rfl, b1⟩
  go_wp2_with fail
  go_ret
  exact ⟨rfl, b1⟩

set_option maxHeartbeats 8000000 in
set_option maxRecDepth 100000 in
theorem refClean_13y (v : Value) (ax : List (ByteArray × ByteArray)) (w : World) (hv : AttrsV w v ax) (_hz : AxOK ax) (s : ByteArray) (hb : (numK 13 s.data.toList).isSome = true) (hs : s.size ≤ 100000) :
    Calls Tryz.prog 11 #[.int .i64 13, v, .string s] w fun e w' => e = .returned (.string s) ∧ Below w.heap.size w w' := by
  have HV := hide (refValue_any 13 s w hs)
  obtain ⟨p, c, rfl, _⟩ := hv
  unfold optV at HV
  generalize optI (numK 13 s.data.toList) = vn at *
  generalize (numK 13 s.data.toList).isSome = vb at *
  subst hb
  clear hs
  go_enter Tryz.func11, Tryz.ntmps11
  go_wp2_with fail
  refine HV.out.mono ?_
  rintro e w1 ⟨rfl, b1⟩
  go_wp2_with fail
  go_ret
  exact ⟨rfl, b1⟩

set_option maxHeartbeats 8000000 in
set_option maxRecDepth 100000 in
theorem refClean_13n (v : Value) (ax : List (ByteArray × ByteArray)) (w : World) (hv : AttrsV w v ax) (_hz : AxOK ax) (s : ByteArray) (hb : (numK 13 s.data.toList).isSome = false) (hs : s.size ≤ 100000) :
    Calls Tryz.prog 11 #[.int .i64 13, v, .string s] w fun e w' => e = .returned (.string ⟨#[]⟩) ∧ Below w.heap.size w w' := by
  have HV := hide (refValue_any 13 s w hs)
  obtain ⟨p, c, rfl, _⟩ := hv
  unfold optV at HV
  generalize optI (numK 13 s.data.toList) = vn at *
  generalize (numK 13 s.data.toList).isSome = vb at *
  subst hb
  clear hs
  go_enter Tryz.func11, Tryz.ntmps11
  go_wp2_with fail
  refine HV.out.mono ?_
  rintro e w1 ⟨rfl, b1⟩
  go_wp2_with fail
  go_ret
  exact ⟨rfl, b1⟩

set_option maxHeartbeats 8000000 in
set_option maxRecDepth 100000 in
theorem refClean_12n (v : Value) (ax : List (ByteArray × ByteArray)) (w : World) (hv : AttrsV w v ax) (_hz : AxOK ax) (s : ByteArray) (hb : numK 12 s.data.toList = none) (hs : s.size ≤ 100000) :
    Calls Tryz.prog 11 #[.int .i64 12, v, .string s] w fun e w' => e = .returned (.string ⟨#[]⟩) ∧ Below w.heap.size w w' := by
  have HV := hide (refValue_any 12 s w hs)
  obtain ⟨o, ho⟩ := shk_some 12 0
  have HN := hide (fun W => refShowK_any ho W (by decide) (by decide))
  rw [hb, show optV none = .tuple #[.int .i64 0, .bool false] from rfl] at HV
  unfold txtV at HN
  generalize txt (o.getD []) = ox at *
  generalize o.isSome = oy at *
  clear ho hb
  obtain ⟨p, c, rfl, _⟩ := hv
  clear hs
  go_enter Tryz.func11, Tryz.ntmps11
  go_wp2_with fail
  refine HV.out.mono ?_
  rintro e w1 ⟨rfl, b1⟩
  go_wp2_with fail
  refine (HN.out _).mono ?_
  rintro e w2 ⟨rfl, b2⟩
  go_wp2_with fail
  go_ret
  exact ⟨rfl, chain b1 b2⟩

set_option maxHeartbeats 8000000 in
set_option maxRecDepth 100000 in
theorem refClean_12y (v : Value) (ax : List (ByteArray × ByteArray)) (w : World) (hv : AttrsV w v ax) (_hz : AxOK ax) (s : ByteArray) (n : Int) (t : List UInt8) (hb : numK 12 s.data.toList = some n) (ho : ShK 12 n (some t)) (hs : s.size ≤ 100000) :
    Calls Tryz.prog 11 #[.int .i64 12, v, .string s] w fun e w' => e = .returned (.string (txt t)) ∧ Below w.heap.size w w' := by
  have HV := hide (refValue_any 12 s w hs)
  have HN := hide (fun W => refShowK_any ho W (by have := num_range hb; omega) (by have := num_range hb; omega))
  rw [hb, show optV (some n) = .tuple #[.int .i64 n, .bool true] from rfl] at HV
  rw [show txtV (some t) = .tuple #[.string (txt t), .bool true] from rfl] at HN
  generalize txt t = ox at *
  clear ho hb
  obtain ⟨p, c, rfl, _⟩ := hv
  clear hs
  go_enter Tryz.func11, Tryz.ntmps11
  go_wp2_with fail
  refine HV.out.mono ?_
  rintro e w1 ⟨rfl, b1⟩
  go_wp2_with fail
  refine (HN.out _).mono ?_
  rintro e w2 ⟨rfl, b2⟩
  go_wp2_with fail
  go_ret
  exact ⟨rfl, chain b1 b2⟩

set_option maxHeartbeats 8000000 in
set_option maxRecDepth 100000 in
theorem refClean_14 (v : Value) (ax : List (ByteArray × ByteArray)) (w : World) (hv : AttrsV w v ax) (hz : AxOK ax) (s : ByteArray)  (hs : s.size ≤ 100000) :
    Calls Tryz.prog 11 #[.int .i64 14, v, .string s] w fun e w' => e = .returned (.string (txt (rangeT ax s.data.toList))) ∧ Below w.heap.size w w' := by
  have HV := hide (refValue_any 14 s w hs)
  have HN := hide (fun W (hb : Below w.heap.size w W) => refRange_any v ax W (hv.below hb) hz s hs)
  generalize txt (rangeT ax s.data.toList) = rt at *
  obtain ⟨p, c, rfl, _⟩ := hv
  unfold optV at HV
  generalize optI (numK 14 s.data.toList) = vn at *
  generalize (numK 14 s.data.toList).isSome = vb at *
  clear hz hs
  go_enter Tryz.func11, Tryz.ntmps11
  go_wp2_with fail
  refine HV.out.mono ?_
  rintro e w1 ⟨rfl, b1⟩
  go_wp2_with fail
  refine (HN.out _ b1).mono ?_
  rintro e w2 ⟨rfl, b2⟩
  go_wp2_with fail
  go_ret
  exact ⟨rfl, chain b1 b2⟩

set_option maxHeartbeats 8000000 in
set_option maxRecDepth 100000 in
theorem refClean_15 (v : Value) (ax : List (ByteArray × ByteArray)) (w : World) (hv : AttrsV w v ax) (_hz : AxOK ax) (s : ByteArray)  (hs : s.size ≤ 100000) :
    Calls Tryz.prog 11 #[.int .i64 15, v, .string s] w fun e w' => e = .returned (.string (txt (cleanL s.data.toList))) ∧ Below w.heap.size w w' := by
  have HV := hide (refValue_any 15 s w hs)
  have HN := hide (fun W => refClean_any s W (by unfold maxLen; omega))
  obtain ⟨p, c, rfl, _⟩ := hv
  unfold optV at HV
  generalize optI (numK 15 s.data.toList) = vn at *
  generalize (numK 15 s.data.toList).isSome = vb at *
  clear hs
  go_enter Tryz.func11, Tryz.ntmps11
  go_wp2_with fail
  refine HV.out.mono ?_
  rintro e w1 ⟨rfl, b1⟩
  go_wp2_with fail
  refine (HN.out _).mono ?_
  rintro e w2 ⟨rfl, b2⟩
  go_wp2_with fail
  go_ret
  exact ⟨rfl, chain b1 b2⟩

set_option maxHeartbeats 8000000 in
set_option maxRecDepth 100000 in
theorem refClean_else (v : Value) (ax : List (ByteArray × ByteArray)) (w : World) (hv : AttrsV w v ax) (_hz : AxOK ax) (s : ByteArray) (k : Int) (hk : k < 2 ∨ 15 < k) (hs : s.size ≤ 100000) :
    Calls Tryz.prog 11 #[.int .i64 k, v, .string s] w fun e w' => e = .returned (.string s) ∧ Below w.heap.size w w' := by
  have HV := hide (refValue_any k s w hs)
  have k2 : (k == 2) = false := by rw [beq_eq_false_iff_ne]; omega
  have m2 : ¬ k = 2 := by omega
  have k3 : (k == 3) = false := by rw [beq_eq_false_iff_ne]; omega
  have m3 : ¬ k = 3 := by omega
  have k4 : (k == 4) = false := by rw [beq_eq_false_iff_ne]; omega
  have m4 : ¬ k = 4 := by omega
  have k5 : (k == 5) = false := by rw [beq_eq_false_iff_ne]; omega
  have m5 : ¬ k = 5 := by omega
  have k6 : (k == 6) = false := by rw [beq_eq_false_iff_ne]; omega
  have m6 : ¬ k = 6 := by omega
  have k7 : (k == 7) = false := by rw [beq_eq_false_iff_ne]; omega
  have m7 : ¬ k = 7 := by omega
  have k8 : (k == 8) = false := by rw [beq_eq_false_iff_ne]; omega
  have m8 : ¬ k = 8 := by omega
  have k9 : (k == 9) = false := by rw [beq_eq_false_iff_ne]; omega
  have m9 : ¬ k = 9 := by omega
  have k10 : (k == 10) = false := by rw [beq_eq_false_iff_ne]; omega
  have m10 : ¬ k = 10 := by omega
  have k11 : (k == 11) = false := by rw [beq_eq_false_iff_ne]; omega
  have m11 : ¬ k = 11 := by omega
  have k12 : (k == 12) = false := by rw [beq_eq_false_iff_ne]; omega
  have m12 : ¬ k = 12 := by omega
  have k13 : (k == 13) = false := by rw [beq_eq_false_iff_ne]; omega
  have m13 : ¬ k = 13 := by omega
  have k14 : (k == 14) = false := by rw [beq_eq_false_iff_ne]; omega
  have m14 : ¬ k = 14 := by omega
  have k15 : (k == 15) = false := by rw [beq_eq_false_iff_ne]; omega
  have m15 : ¬ k = 15 := by omega
  clear hk
  obtain ⟨p, c, rfl, _⟩ := hv
  unfold optV at HV
  generalize optI (numK k s.data.toList) = vn at *
  generalize (numK k s.data.toList).isSome = vb at *
  clear hs
  go_enter Tryz.func11, Tryz.ntmps11
  go_wp2_with fail
  refine HV.out.mono ?_
  rintro e w1 ⟨rfl, b1⟩
  go_wp2_with fail
  go_ret
  exact ⟨rfl, b1⟩

theorem refCleanV_any {k : Int} (v : Value) (ax : List (ByteArray × ByteArray)) (w : World) (hv : AttrsV w v ax) (hz : AxOK ax) {s : ByteArray} {t : List UInt8} (h : CleanIs k ax s.data.toList t) (hs : s.size ≤ 100000) :
    Calls Tryz.prog 11 #[.int .i64 k, v, .string s] w fun e w' => e = .returned (.string (txt t)) ∧ Below w.heap.size w w' := by
  rcases h with ⟨h, rfl⟩ | ⟨rfl, rfl⟩ | ⟨rfl, q, rfl⟩ | ⟨rfl, q, rfl⟩ | ⟨h, q, rfl⟩ | ⟨h, q, rfl⟩ | ⟨rfl, q, rfl⟩ | ⟨rfl, n, q, ht⟩ | ⟨rfl, rfl⟩ | ⟨rfl, rfl⟩ | ⟨h, rfl⟩
  · rcases h with rfl | rfl | rfl | rfl
    · exact refClean_2 v ax w hv hz s hs
    · exact refClean_3 v ax w hv hz s hs
    · exact refClean_4 v ax w hv hz s hs
    · exact refClean_7 v ax w hv hz s hs
  · exact refClean_5 v ax w hv hz s hs
  · obtain ⟨i, hi⟩ := Option.isSome_iff_exists.1 q
    exact refClean_6y v ax w hv hz s i hi hs
  · exact refClean_6n v ax w hv hz s (Option.isNone_iff_eq_none.1 (by rw [← Option.not_isSome]; exact (congrArg Bool.not q))) hs
  · rcases h with rfl | rfl | rfl | rfl | rfl
    · exact refClean_8y v ax w hv hz s q hs
    · exact refClean_9y v ax w hv hz s q hs
    · exact refClean_10y v ax w hv hz s q hs
    · exact refClean_11y v ax w hv hz s q hs
    · exact refClean_13y v ax w hv hz s q hs
  · rcases h with rfl | rfl | rfl | rfl | rfl
    · exact refClean_8n v ax w hv hz s q hs
    · exact refClean_9n v ax w hv hz s q hs
    · exact refClean_10n v ax w hv hz s q hs
    · exact refClean_11n v ax w hv hz s q hs
    · exact refClean_13n v ax w hv hz s q hs
  · exact refClean_12n v ax w hv hz s q hs
  · exact refClean_12y v ax w hv hz s n t q ht hs
  · exact refClean_14 v ax w hv hz s hs
  · exact refClean_15 v ax w hv hz s hs
  · exact refClean_else v ax w hv hz s k h hs

end Go.Proofs.YtpkpkpiphgjbaaaGreatDoor
