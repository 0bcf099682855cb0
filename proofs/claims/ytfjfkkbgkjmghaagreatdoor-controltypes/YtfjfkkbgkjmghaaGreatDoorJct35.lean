/- The document's Attr, SameFiles, Same of layer 14. The document's Value of layer 13. An argument that is a control (its kind, what it has, its attributes), opened. -/
import Derived.Test.YtfjfkkbgkjmghaaGreatDoorJct25
import Derived.Test.YtfjfkkbgkjmghaaGreatDoorJct29
import Derived.Test.YtfjfkkbgkjmghaaGreatDoorJct30
import Derived.Test.YtfjfkkbgkjmghaaGreatDoorJct37

namespace Go.Proofs.YtfjfkkbgkjmghaaGreatDoor
open Go.RowKit
set_option maxRecDepth 100000
theorem belR {B : Nat} {a w : World} (h : Below B a w) (n : Nat) : Below B a (w.drewN n) := ⟨h.os, h.tape, h.output, h.size, h.block⟩
end Go.Proofs.YtfjfkkbgkjmghaaGreatDoor

namespace Go.Proofs.YtfjfkkbgkjmghaaGreatDoor
open Go.RowKit
set_option maxHeartbeats 8000000 in
set_option maxRecDepth 100000 in
theorem refClean_2 (v : Value) (ax : List (ByteArray × ByteArray)) (w : World) (hv : AttrsV w v ax) (_hz : AxOK ax) (s : ByteArray)  (hs : s.size ≤ 100000) :
    Calls Tryz.prog 25 #[.int .i64 2, v, .string s] w fun e w' => e = .returned (.string (txt (noBrL s.data.toList))) ∧ Below w.heap.size w w' := by
  have HV := hide (refValue_any 2 s w hs)
  have HN := hide (fun W => refNoBreaks_any s W (by omega))
  obtain ⟨p, c, rfl, _⟩ := hv
  unfold optV at HV
  generalize optI (numK 2 s.data.toList) = vn at *
  generalize (numK 2 s.data.toList).isSome = vb at *
  clear hs
  go_enter Tryz.func25, Tryz.ntmps25
  go_wp2_with fail
  refine HV.out.mono ?_
  rintro e w1 ⟨rfl, b1⟩
  go_wp2_with fail
  refine (HN.out _).mono ?_
  rintro e w2 ⟨rfl, b2⟩
  go_wp2_with fail
  go_ret
  exact ⟨rfl, chain b1 b2⟩
set_option maxHeartbeats 8000000 in
set_option maxRecDepth 100000 in
theorem refClean_3 (v : Value) (ax : List (ByteArray × ByteArray)) (w : World) (hv : AttrsV w v ax) (_hz : AxOK ax) (s : ByteArray)  (hs : s.size ≤ 100000) :
    Calls Tryz.prog 25 #[.int .i64 3, v, .string s] w fun e w' => e = .returned (.string (txt (noBrL s.data.toList))) ∧ Below w.heap.size w w' := by
  have HV := hide (refValue_any 3 s w hs)
  have HN := hide (fun W => refNoBreaks_any s W (by omega))
  obtain ⟨p, c, rfl, _⟩ := hv
  unfold optV at HV
  generalize optI (numK 3 s.data.toList) = vn at *
  generalize (numK 3 s.data.toList).isSome = vb at *
  clear hs
  go_enter Tryz.func25, Tryz.ntmps25
  go_wp2_with fail
  refine HV.out.mono ?_
  rintro e w1 ⟨rfl, b1⟩
  go_wp2_with fail
  refine (HN.out _).mono ?_
  rintro e w2 ⟨rfl, b2⟩
  go_wp2_with fail
  go_ret
  exact ⟨rfl, chain b1 b2⟩
set_option maxHeartbeats 8000000 in
set_option maxRecDepth 100000 in
theorem refClean_4 (v : Value) (ax : List (ByteArray × ByteArray)) (w : World) (hv : AttrsV w v ax) (_hz : AxOK ax) (s : ByteArray)  (hs : s.size ≤ 100000) :
    Calls Tryz.prog 25 #[.int .i64 4, v, .string s] w fun e w' => e = .returned (.string (txt (noBrL s.data.toList))) ∧ Below w.heap.size w w' := by
  have HV := hide (refValue_any 4 s w hs)
  have HN := hide (fun W => refNoBreaks_any s W (by omega))
  obtain ⟨p, c, rfl, _⟩ := hv
  unfold optV at HV
  generalize optI (numK 4 s.data.toList) = vn at *
  generalize (numK 4 s.data.toList).isSome = vb at *
  clear hs
  go_enter Tryz.func25, Tryz.ntmps25
  go_wp2_with fail
  refine HV.out.mono ?_
  rintro e w1 ⟨rfl, b1⟩
  go_wp2_with fail
  refine (HN.out _).mono ?_
  rintro e w2 ⟨rfl, b2⟩
  go_wp2_with fail
  go_ret
  exact ⟨rfl, chain b1 b2⟩
set_option maxHeartbeats 8000000 in
set_option maxRecDepth 100000 in
theorem refClean_7 (v : Value) (ax : List (ByteArray × ByteArray)) (w : World) (hv : AttrsV w v ax) (_hz : AxOK ax) (s : ByteArray)  (hs : s.size ≤ 100000) :
    Calls Tryz.prog 25 #[.int .i64 7, v, .string s] w fun e w' => e = .returned (.string (txt (noBrL s.data.toList))) ∧ Below w.heap.size w w' := by
  have HV := hide (refValue_any 7 s w hs)
  have HN := hide (fun W => refNoBreaks_any s W (by omega))
  obtain ⟨p, c, rfl, _⟩ := hv
  unfold optV at HV
  generalize optI (numK 7 s.data.toList) = vn at *
  generalize (numK 7 s.data.toList).isSome = vb at *
  clear hs
  go_enter Tryz.func25, Tryz.ntmps25
  go_wp2_with fail
  refine HV.out.mono ?_
  rintro e w1 ⟨rfl, b1⟩
  go_wp2_with fail
  refine (HN.out _).mono ?_
  rintro e w2 ⟨rfl, b2⟩
  go_wp2_with fail
  go_ret
  exact ⟨rfl, chain b1 b2⟩
set_option maxHeartbeats 8000000 in
set_option maxRecDepth 100000 in
theorem refClean_5 (v : Value) (ax : List (ByteArray × ByteArray)) (w : World) (hv : AttrsV w v ax) (_hz : AxOK ax) (s : ByteArray)  (hs : s.size ≤ 100000) :
    Calls Tryz.prog 25 #[.int .i64 5, v, .string s] w fun e w' => e = .returned (.string (txt (trimM s.data.toList))) ∧ Below w.heap.size w w' := by
  have HV := hide (refValue_any 5 s w hs)
  have HN := hide (fun W => refTrim_any s W (by omega))
  obtain ⟨p, c, rfl, _⟩ := hv
  unfold optV at HV
  generalize optI (numK 5 s.data.toList) = vn at *
  generalize (numK 5 s.data.toList).isSome = vb at *
  clear hs
  go_enter Tryz.func25, Tryz.ntmps25
  go_wp2_with fail
  refine HV.out.mono ?_
  rintro e w1 ⟨rfl, b1⟩
  go_wp2_with fail
  refine (HN.out _).mono ?_
  rintro e w2 ⟨rfl, b2⟩
  go_wp2_with fail
  go_ret
  exact ⟨rfl, chain b1 b2⟩
set_option maxHeartbeats 8000000 in
set_option maxRecDepth 100000 in
theorem refClean_6y (v : Value) (ax : List (ByteArray × ByteArray)) (w : World) (hv : AttrsV w v ax) (hz : AxOK ax) (s : ByteArray) (i : Nat) (hf : findA ax ⟨#[109, 117, 108, 116, 105, 112, 108, 101]⟩ = some i) (hs : s.size ≤ 100000) :
    Calls Tryz.prog 25 #[.int .i64 6, v, .string s] w fun e w' => e = .returned (.string (txt (cleanM s.data.toList))) ∧ Below w.heap.size w w' := by
  have HV := hide (refValue_any 6 s w hs)
  have HN := hide (fun W => refCleanM_any s W (by omega))
  have HF := hide (fun W (hb : Below w.heap.size w W) => refFind_any v ax multS W (hv.below hb) hz.len)
  rw [show multS = ⟨#[109, 117, 108, 116, 105, 112, 108, 101]⟩ from rfl] at HF
  rw [hf, show findV (some i) = (i : Int) from rfl] at HF
  have i0 : (0 : Int) ≤ (i : Int) := by omega
  clear hf
  obtain ⟨p, c, rfl, _⟩ := hv
  unfold optV at HV
  generalize optI (numK 6 s.data.toList) = vn at *
  generalize (numK 6 s.data.toList).isSome = vb at *
  clear hz hs
  go_enter Tryz.func25, Tryz.ntmps25
  go_wp2_with fail
  refine HV.out.mono ?_
  rintro e w1 ⟨rfl, b1⟩
  go_wp2_with fail
  refine (HF.out _ b1).mono ?_
  rintro e w9 ⟨rfl, h9⟩
  obtain rfl : w1 = w9 := h9.symm
  go_wp2_with fail
  refine (HN.out _).mono ?_
  rintro e w2 ⟨rfl, b2⟩
  go_wp2_with fail
  go_ret
  exact ⟨rfl, chain b1 b2⟩
set_option maxHeartbeats 8000000 in
set_option maxRecDepth 100000 in
theorem refClean_6n (v : Value) (ax : List (ByteArray × ByteArray)) (w : World) (hv : AttrsV w v ax) (hz : AxOK ax) (s : ByteArray) (hf : findA ax ⟨#[109, 117, 108, 116, 105, 112, 108, 101]⟩ = none) (hs : s.size ≤ 100000) :
    Calls Tryz.prog 25 #[.int .i64 6, v, .string s] w fun e w' => e = .returned (.string (txt (trimM s.data.toList))) ∧ Below w.heap.size w w' := by
  have HV := hide (refValue_any 6 s w hs)
  have HN := hide (fun W => refTrim_any s W (by omega))
  have HF := hide (fun W (hb : Below w.heap.size w W) => refFind_any v ax multS W (hv.below hb) hz.len)
  rw [show multS = ⟨#[109, 117, 108, 116, 105, 112, 108, 101]⟩ from rfl] at HF
  rw [hf, show findV none = -1 from rfl] at HF
  clear hf
  obtain ⟨p, c, rfl, _⟩ := hv
  unfold optV at HV
  generalize optI (numK 6 s.data.toList) = vn at *
  generalize (numK 6 s.data.toList).isSome = vb at *
  clear hz hs
  go_enter Tryz.func25, Tryz.ntmps25
  go_wp2_with fail
  refine HV.out.mono ?_
  rintro e w1 ⟨rfl, b1⟩
  go_wp2_with fail
  refine (HF.out _ b1).mono ?_
  rintro e w9 ⟨rfl, h9⟩
  obtain rfl : w1 = w9 := h9.symm
  go_wp2_with fail
  refine (HN.out _).mono ?_
  rintro e w2 ⟨rfl, b2⟩
  go_wp2_with fail
  go_ret
  exact ⟨rfl, chain b1 b2⟩
set_option maxHeartbeats 8000000 in
set_option maxRecDepth 100000 in
theorem refClean_8y (v : Value) (ax : List (ByteArray × ByteArray)) (w : World) (hv : AttrsV w v ax) (_hz : AxOK ax) (s : ByteArray) (hb : (numK 8 s.data.toList).isSome = true) (hs : s.size ≤ 100000) :
    Calls Tryz.prog 25 #[.int .i64 8, v, .string s] w fun e w' => e = .returned (.string s) ∧ Below w.heap.size w w' := by
  have HV := hide (refValue_any 8 s w hs)
  obtain ⟨p, c, rfl, _⟩ := hv
  unfold optV at HV
  generalize optI (numK 8 s.data.toList) = vn at *
  generalize (numK 8 s.data.toList).isSome = vb at *
  subst hb
  clear hs
  go_enter Tryz.func25, Tryz.ntmps25
  go_wp2_with fail
  refine HV.out.mono ?_
  rintro e w1 ⟨rfl, b1⟩
  go_wp2_with fail
  go_ret
  exact ⟨rfl, b1⟩
set_option maxHeartbeats 8000000 in
set_option maxRecDepth 100000 in
theorem refClean_8n (v : Value) (ax : List (ByteArray × ByteArray)) (w : World) (hv : AttrsV w v ax) (_hz : AxOK ax) (s : ByteArray) (hb : (numK 8 s.data.toList).isSome = false) (hs : s.size ≤ 100000) :
    Calls Tryz.prog 25 #[.int .i64 8, v, .string s] w fun e w' => e = .returned (.string ⟨#[]⟩) ∧ Below w.heap.size w w' := by
  have HV := hide (refValue_any 8 s w hs)
  obtain ⟨p, c, rfl, _⟩ := hv
  unfold optV at HV
  generalize optI (numK 8 s.data.toList) = vn at *
  generalize (numK 8 s.data.toList).isSome = vb at *
  subst hb
  clear hs
  go_enter Tryz.func25, Tryz.ntmps25
  go_wp2_with fail
  refine HV.out.mono ?_
  rintro e w1 ⟨rfl, b1⟩
  go_wp2_with fail
  go_ret
  exact ⟨rfl, b1⟩
set_option maxHeartbeats 8000000 in
set_option maxRecDepth 100000 in
theorem refClean_9y (v : Value) (ax : List (ByteArray × ByteArray)) (w : World) (hv : AttrsV w v ax) (_hz : AxOK ax) (s : ByteArray) (hb : (numK 9 s.data.toList).isSome = true) (hs : s.size ≤ 100000) :
    Calls Tryz.prog 25 #[.int .i64 9, v, .string s] w fun e w' => e = .returned (.string s) ∧ Below w.heap.size w w' := by
  have HV := hide (refValue_any 9 s w hs)
  obtain ⟨p, c, rfl, _⟩ := hv
  unfold optV at HV
  generalize optI (numK 9 s.data.toList) = vn at *
  generalize (numK 9 s.data.toList).isSome = vb at *
  subst hb
  clear hs
  go_enter Tryz.func25, Tryz.ntmps25
  go_wp2_with fail
  refine HV.out.mono ?_
  rintro e w1 ⟨rfl, b1⟩
  go_wp2_with fail
  go_ret
  exact ⟨rfl, b1⟩
set_option maxHeartbeats 8000000 in
set_option maxRecDepth 100000 in
theorem refClean_9n (v : Value) (ax : List (ByteArray × ByteArray)) (w : World) (hv : AttrsV w v ax) (_hz : AxOK ax) (s : ByteArray) (hb : (numK 9 s.data.toList).isSome = false) (hs : s.size ≤ 100000) :
    Calls Tryz.prog 25 #[.int .i64 9, v, .string s] w fun e w' => e = .returned (.string ⟨#[]⟩) ∧ Below w.heap.size w w' := by
  have HV := hide (refValue_any 9 s w hs)
  obtain ⟨p, c, rfl, _⟩ := hv
  unfold optV at HV
  generalize optI (numK 9 s.data.toList) = vn at *
  generalize (numK 9 s.data.toList).isSome = vb at *
  subst hb
  clear hs
  go_enter Tryz.func25, Tryz.ntmps25
  go_wp2_with fail
  refine HV.out.mono ?_
  rintro e w1 ⟨rfl, b1⟩
  go_wp2_with fail
  go_ret
  exact ⟨rfl, b1⟩
set_option maxHeartbeats 8000000 in
set_option maxRecDepth 100000 in
theorem refClean_10y (v : Value) (ax : List (ByteArray × ByteArray)) (w : World) (hv : AttrsV w v ax) (_hz : AxOK ax) (s : ByteArray) (hb : (numK 10 s.data.toList).isSome = true) (hs : s.size ≤ 100000) :
    Calls Tryz.prog 25 #[.int .i64 10, v, .string s] w fun e w' => e = .returned (.string s) ∧ Below w.heap.size w w' := by
  have HV := hide (refValue_any 10 s w hs)
  obtain ⟨p, c, rfl, _⟩ := hv
  unfold optV at HV
  generalize optI (numK 10 s.data.toList) = vn at *
  generalize (numK 10 s.data.toList).isSome = vb at *
  subst hb
  clear hs
  go_enter Tryz.func25, Tryz.ntmps25
  go_wp2_with fail
  refine HV.out.mono ?_
  rintro e w1 ⟨rfl, b1⟩
  go_wp2_with fail
  go_ret
  exact ⟨rfl, b1⟩
set_option maxHeartbeats 8000000 in
set_option maxRecDepth 100000 in
theorem refClean_10n (v : Value) (ax : List (ByteArray × ByteArray)) (w : World) (hv : AttrsV w v ax) (_hz : AxOK ax) (s : ByteArray) (hb : (numK 10 s.data.toList).isSome = false) (hs : s.size ≤ 100000) :
    Calls Tryz.prog 25 #[.int .i64 10, v, .string s] w fun e w' => e = .returned (.string ⟨#[]⟩) ∧ Below w.heap.size w w' := by
  have HV := hide (refValue_any 10 s w hs)
  obtain ⟨p, c, rfl, _⟩ := hv
  unfold optV at HV
  generalize optI (numK 10 s.data.toList) = vn at *
  generalize (numK 10 s.data.toList).isSome = vb at *
  subst hb
  clear hs
  go_enter Tryz.func25, Tryz.ntmps25
  go_wp2_with fail
  refine HV.out.mono ?_
  rintro e w1 ⟨rfl, b1⟩
  go_wp2_with fail
  go_ret
  exact ⟨rfl, b1⟩
set_option maxHeartbeats 8000000 in
set_option maxRecDepth 100000 in
theorem refClean_11y (v : Value) (ax : List (ByteArray × ByteArray)) (w : World) (hv : AttrsV w v ax) (_hz : AxOK ax) (s : ByteArray) (hb : (numK 11 s.data.toList).isSome = true) (hs : s.size ≤ 100000) :
    Calls Tryz.prog 25 #[.int .i64 11, v, .string s] w fun e w' => e = .returned (.string s) ∧ Below w.heap.size w w' := by
  have HV := hide (refValue_any 11 s w hs)
  obtain ⟨p, c, rfl, _⟩ := hv
  unfold optV at HV
  generalize optI (numK 11 s.data.toList) = vn at *
  generalize (numK 11 s.data.toList).isSome = vb at *
  subst hb
  clear hs
  go_enter Tryz.func25, Tryz.ntmps25
  go_wp2_with fail
  refine HV.out.mono ?_
  rintro e w1 ⟨rfl, b1⟩
  go_wp2_with fail
  go_ret
  exact ⟨rfl, b1⟩
set_option maxHeartbeats 8000000 in
set_option maxRecDepth 100000 in
theorem refClean_11n (v : Value) (ax : List (ByteArray × ByteArray)) (w : World) (hv : AttrsV w v ax) (_hz : AxOK ax) (s : ByteArray) (hb : (numK 11 s.data.toList).isSome = false) (hs : s.size ≤ 100000) :
    Calls Tryz.prog 25 #[.int .i64 11, v, .string s] w fun e w' => e = .returned (.string ⟨#[]⟩) ∧ Below w.heap.size w w' := by
  have HV := hide (refValue_any 11 s w hs)
  obtain ⟨p, c, rfl, _⟩ := hv
  unfold optV at HV
  generalize optI (numK 11 s.data.toList) = vn at *
  generalize (numK 11 s.data.toList).isSome = vb at *
  subst hb
  clear hs
  go_enter Tryz.func25, Tryz.ntmps25
  go_wp2_with fail
  refine HV.out.mono ?_
  rintro e w1 ⟨rfl, b1⟩
  go_wp2_with fail
  go_ret
  exact ⟨rfl, b1⟩
set_option maxHeartbeats 8000000 in
set_option maxRecDepth 100000 in
theorem refClean_13y (v : Value) (ax : List (ByteArray × ByteArray)) (w : World) (hv : AttrsV w v ax) (_hz : AxOK ax) (s : ByteArray) (hb : (numK 13 s.data.toList).isSome = true) (hs : s.size ≤ 100000) :
    Calls Tryz.prog 25 #[.int .i64 13, v, .string s] w fun e w' => e = .returned (.string s) ∧ Below w.heap.size w w' := by
  have HV := hide (refValue_any 13 s w hs)
  obtain ⟨p, c, rfl, _⟩ := hv
  unfold optV at HV
  generalize optI (numK 13 s.data.toList) = vn at *
  generalize (numK 13 s.data.toList).isSome = vb at *
  subst hb
  clear hs
  go_enter Tryz.func25, Tryz.ntmps25
  go_wp2_with fail
  refine HV.out.mono ?_
  rintro e w1 ⟨rfl, b1⟩
  go_wp2_with fail
  go_ret
  exact ⟨rfl, b1⟩
set_option maxHeartbeats 8000000 in
set_option maxRecDepth 100000 in
theorem refClean_13n (v : Value) (ax : List (ByteArray × ByteArray)) (w : World) (hv : AttrsV w v ax) (_hz : AxOK ax) (s : ByteArray) (hb : (numK 13 s.data.toList).isSome = false) (hs : s.size ≤ 100000) :
    Calls Tryz.prog 25 #[.int .i64 13, v, .string s] w fun e w' => e = .returned (.string ⟨#[]⟩) ∧ Below w.heap.size w w' := by
  have HV := hide (refValue_any 13 s w hs)
  obtain ⟨p, c, rfl, _⟩ := hv
  unfold optV at HV
  generalize optI (numK 13 s.data.toList) = vn at *
  generalize (numK 13 s.data.toList).isSome = vb at *
  subst hb
  clear hs
  go_enter Tryz.func25, Tryz.ntmps25
  go_wp2_with fail
  refine HV.out.mono ?_
  rintro e w1 ⟨rfl, b1⟩
  go_wp2_with fail
  go_ret
  exact ⟨rfl, b1⟩
set_option maxHeartbeats 8000000 in
set_option maxRecDepth 100000 in
theorem refClean_12n (v : Value) (ax : List (ByteArray × ByteArray)) (w : World) (hv : AttrsV w v ax) (_hz : AxOK ax) (s : ByteArray) (hb : numK 12 s.data.toList = none) (hs : s.size ≤ 100000) :
    Calls Tryz.prog 25 #[.int .i64 12, v, .string s] w fun e w' => e = .returned (.string ⟨#[]⟩) ∧ Below w.heap.size w w' := by
  have HV := hide (refValue_any 12 s w hs)
  obtain ⟨o, ho⟩ := shk_some 12 0
  have HN := hide (fun W => refShowK_any ho W (by decide) (by decide))
  rw [hb, show optV none = .tuple #[.int .i64 0, .bool false] from rfl] at HV
  unfold txtV at HN
  generalize txt (o.getD []) = ox at *
  generalize o.isSome = oy at *
  clear ho hb
  obtain ⟨p, c, rfl, _⟩ := hv
  clear hs
  go_enter Tryz.func25, Tryz.ntmps25
  go_wp2_with fail
  refine HV.out.mono ?_
  rintro e w1 ⟨rfl, b1⟩
  go_wp2_with fail
  refine (HN.out _).mono ?_
  rintro e w2 ⟨rfl, b2⟩
  go_wp2_with fail
  go_ret
  exact ⟨rfl, chain b1 b2⟩
set_option maxHeartbeats 8000000 in
set_option maxRecDepth 100000 in
theorem refClean_12y (v : Value) (ax : List (ByteArray × ByteArray)) (w : World) (hv : AttrsV w v ax) (_hz : AxOK ax) (s : ByteArray) (n : Int) (t : List UInt8) (hb : numK 12 s.data.toList = some n) (ho : ShK 12 n (some t)) (hs : s.size ≤ 100000) :
    Calls Tryz.prog 25 #[.int .i64 12, v, .string s] w fun e w' => e = .returned (.string (txt t)) ∧ Below w.heap.size w w' := by
  have HV := hide (refValue_any 12 s w hs)
  have HN := hide (fun W => refShowK_any ho W (by have := num_range hb; omega) (by have := num_range hb; omega))
  rw [hb, show optV (some n) = .tuple #[.int .i64 n, .bool true] from rfl] at HV
  rw [show txtV (some t) = .tuple #[.string (txt t), .bool true] from rfl] at HN
  generalize txt t = ox at *
  clear ho hb
  obtain ⟨p, c, rfl, _⟩ := hv
  clear hs
  go_enter Tryz.func25, Tryz.ntmps25
  go_wp2_with fail
  refine HV.out.mono ?_
  rintro e w1 ⟨rfl, b1⟩
  go_wp2_with fail
  refine (HN.out _).mono ?_
  rintro e w2 ⟨rfl, b2⟩
  go_wp2_with fail
  go_ret
  exact ⟨rfl, chain b1 b2⟩
set_option maxHeartbeats 8000000 in
set_option maxRecDepth 100000 in
theorem refClean_14 (v : Value) (ax : List (ByteArray × ByteArray)) (w : World) (hv : AttrsV w v ax) (hz : AxOK ax) (s : ByteArray)  (hs : s.size ≤ 100000) :
    Calls Tryz.prog 25 #[.int .i64 14, v, .string s] w fun e w' => e = .returned (.string (txt (rangeT ax s.data.toList))) ∧ Below w.heap.size w w' := by
  have HV := hide (refValue_any 14 s w hs)
  have HN := hide (fun W (hb : Below w.heap.size w W) => refRange_any v ax W (hv.below hb) hz s hs)
  generalize txt (rangeT ax s.data.toList) = rt at *
  obtain ⟨p, c, rfl, _⟩ := hv
  unfold optV at HV
  generalize optI (numK 14 s.data.toList) = vn at *
  generalize (numK 14 s.data.toList).isSome = vb at *
  clear hz hs
  go_enter Tryz.func25, Tryz.ntmps25
  go_wp2_with fail
  refine HV.out.mono ?_
  rintro e w1 ⟨rfl, b1⟩
  go_wp2_with fail
  refine (HN.out _ b1).mono ?_
  rintro e w2 ⟨rfl, b2⟩
  go_wp2_with fail
  go_ret
  exact ⟨rfl, chain b1 b2⟩
set_option maxHeartbeats 8000000 in
set_option maxRecDepth 100000 in
theorem refClean_15 (v : Value) (ax : List (ByteArray × ByteArray)) (w : World) (hv : AttrsV w v ax) (_hz : AxOK ax) (s : ByteArray)  (hs : s.size ≤ 100000) :
    Calls Tryz.prog 25 #[.int .i64 15, v, .string s] w fun e w' => e = .returned (.string (txt (cleanL s.data.toList))) ∧ Below w.heap.size w w' := by
  have HV := hide (refValue_any 15 s w hs)
  have HN := hide (fun W => refClean_any s W (by unfold maxLen; omega))
  obtain ⟨p, c, rfl, _⟩ := hv
  unfold optV at HV
  generalize optI (numK 15 s.data.toList) = vn at *
  generalize (numK 15 s.data.toList).isSome = vb at *
  clear hs
  go_enter Tryz.func25, Tryz.ntmps25
  go_wp2_with fail
  refine HV.out.mono ?_
  rintro e w1 ⟨rfl, b1⟩
  go_wp2_with fail
  refine (HN.out _).mono ?_
  rintro e w2 ⟨rfl, b2⟩
  go_wp2_with fail
  go_ret
  exact ⟨rfl, chain b1 b2⟩
set_option maxHeartbeats 8000000 in
set_option maxRecDepth 100000 in
theorem refClean_else (v : Value) (ax : List (ByteArray × ByteArray)) (w : World) (hv : AttrsV w v ax) (_hz : AxOK ax) (s : ByteArray) (k : Int) (hk : k < 2 ∨ 15 < k) (hs : s.size ≤ 100000) :
    Calls Tryz.prog 25 #[.int .i64 k, v, .string s] w fun e w' => e = .returned (.string s) ∧ Below w.heap.size w w' := by
  have HV := hide (refValue_any k s w hs)
  have k2 : (k == 2) = false := by rw [beq_eq_false_iff_ne]; omega
  have m2 : ¬ k = 2 := by omega
  have k3 : (k == 3) = false := by rw [beq_eq_false_iff_ne]; omega
  have m3 : ¬ k = 3 := by omega
  have k4 : (k == 4) = false := by rw [beq_eq_false_iff_ne]; omega
  have m4 : ¬ k = 4 := by omega
  have k5 : (k == 5) = false := by rw [beq_eq_false_iff_ne]; omega
  have m5 : ¬ k = 5 := by omega
  have k6 : (k == 6) = false := by rw [beq_eq_false_iff_ne]; omega
  have m6 : ¬ k = 6 := by omega
  have k7 : (k == 7) = false := by rw [beq_eq_false_iff_ne]; omega
  have m7 : ¬ k = 7 := by omega
  have k8 : (k == 8) = false := by rw [beq_eq_false_iff_ne]; omega
  have m8 : ¬ k = 8 := by omega
  have k9 : (k == 9) = false := by rw [beq_eq_false_iff_ne]; omega
  have m9 : ¬ k = 9 := by omega
  have k10 : (k == 10) = false := by rw [beq_eq_false_iff_ne]; omega
  have m10 : ¬ k = 10 := by omega
  have k11 : (k == 11) = false := by rw [beq_eq_false_iff_ne]; omega
  have m11 : ¬ k = 11 := by omega
  have k12 : (k == 12) = false := by rw [beq_eq_false_iff_ne]; omega
  have m12 : ¬ k = 12 := by omega
  have k13 : (k == 13) = false := by rw [beq_eq_false_iff_ne]; omega
  have m13 : ¬ k = 13 := by omega
  have k14 : (k == 14) = false := by rw [beq_eq_false_iff_ne]; omega
  have m14 : ¬ k = 14 := by omega
  have k15 : (k == 15) = false := by rw [beq_eq_false_iff_ne]; omega
  have m15 : ¬ k = 15 := by omega
  clear hk
  obtain ⟨p, c, rfl, _⟩ := hv
  unfold optV at HV
  generalize optI (numK k s.data.toList) = vn at *
  generalize (numK k s.data.toList).isSome = vb at *
  clear hs
  go_enter Tryz.func25, Tryz.ntmps25
  go_wp2_with fail
  refine HV.out.mono ?_
  rintro e w1 ⟨rfl, b1⟩
  go_wp2_with fail
  go_ret
  exact ⟨rfl, b1⟩
theorem refCleanV_any {k : Int} (v : Value) (ax : List (ByteArray × ByteArray)) (w : World) (hv : AttrsV w v ax) (hz : AxOK ax) {s : ByteArray} {t : List UInt8} (h : CleanIs k ax s.data.toList t) (hs : s.size ≤ 100000) :
    Calls Tryz.prog 25 #[.int .i64 k, v, .string s] w fun e w' => e = .returned (.string (txt t)) ∧ Below w.heap.size w w' := by
  rcases h with ⟨h, rfl⟩ | ⟨rfl, rfl⟩ | ⟨rfl, q, rfl⟩ | ⟨rfl, q, rfl⟩ | ⟨h, q, rfl⟩ | ⟨h, q, rfl⟩ | ⟨rfl, q, rfl⟩ | ⟨rfl, n, q, ht⟩ | ⟨rfl, rfl⟩ | ⟨rfl, rfl⟩ | ⟨h, rfl⟩
  · rcases h with rfl | rfl | rfl | rfl
    · exact refClean_2 v ax w hv hz s hs
    · exact refClean_3 v ax w hv hz s hs
    · exact refClean_4 v ax w hv hz s hs
    · exact refClean_7 v ax w hv hz s hs
  · exact refClean_5 v ax w hv hz s hs
  · obtain ⟨i, hi⟩ := Option.isSome_iff_exists.1 q
    exact refClean_6y v ax w hv hz s i hi hs
  · exact refClean_6n v ax w hv hz s (Option.isNone_iff_eq_none.1 (by rw [← Option.not_isSome]; exact (congrArg Bool.not q))) hs
  · rcases h with rfl | rfl | rfl | rfl | rfl
    · exact refClean_8y v ax w hv hz s q hs
    · exact refClean_9y v ax w hv hz s q hs
    · exact refClean_10y v ax w hv hz s q hs
    · exact refClean_11y v ax w hv hz s q hs
    · exact refClean_13y v ax w hv hz s q hs
  · rcases h with rfl | rfl | rfl | rfl | rfl
    · exact refClean_8n v ax w hv hz s q hs
    · exact refClean_9n v ax w hv hz s q hs
    · exact refClean_10n v ax w hv hz s q hs
    · exact refClean_11n v ax w hv hz s q hs
    · exact refClean_13n v ax w hv hz s q hs
  · exact refClean_12n v ax w hv hz s q hs
  · exact refClean_12y v ax w hv hz s n t q ht hs
  · exact refClean_14 v ax w hv hz s hs
  · exact refClean_15 v ax w hv hz s hs
  · exact refClean_else v ax w hv hz s k h hs
end Go.Proofs.YtfjfkkbgkjmghaaGreatDoor

namespace Go.Proofs.YtfjfkkbgkjmghaaGreatDoor
open Go.RowKit Go.ChangeShapes Go.WideShapes Go.Deep
theorem cellsOfEn : Tryz.prog.cellsOf 59 = 5 := by kernel_rfl
theorem cellsOfCt : Tryz.prog.cellsOf 24 = 10 := by kernel_rfl
theorem cellsOfIt : Tryz.prog.cellsOf 27 = 12 := by kernel_rfl
theorem cellsOfB : Tryz.prog.cellsOf 4 = 1 := by kernel_rfl
theorem cellsOfI' : Tryz.prog.cellsOf 3 = 1 := by kernel_rfl
theorem cellsOfEs : Tryz.prog.cellsOf 22 = 1 := by kernel_rfl
theorem bytesOfEn : Tryz.prog.bytesOf 59 = 72 := by kernel_rfl
section
variable {H : Type} {enc : TypeId × Value → H} {w : World}
theorem str_reach {P : Program} {t : TypeId} {s : ByteArray} (h : inReach ((.lit (.string s.data.toList) : DataW H).weights P t)) : s.size ≤ reachBytes := by
  simp only [inReach, DataW.weights, List.all_cons, List.all_nil, Bool.and_true, decide_eq_true_eq, Array.length_toList] at h
  exact h
set_option maxRecDepth 100000 in
theorem open_entry {fuel : Nat} {cs : List Value} {x : DataW H × List MemPlace} (h : DataW.trod enc Tryz.prog w 0 (fun _ => true) true fuel 59 cs = some x) (hr : inReach (x.1.weights Tryz.prog 59)) :
    ∃ e : En, cs = [.string e.name, .string e.val, .bool e.file, .string e.fname, .string e.typ] ∧ e.fname.size ≤ reachBytes ∧ e.name.size ≤ reachBytes ∧ e.val.size ≤ reachBytes ∧ e.typ.size ≤ reachBytes := by
  obtain ⟨xs, n, _, rfl, hl, hlen, hf⟩ := DataW.trod_struct Tryz.underlying59 h
  rw [cellsOfEn] at hl
  match xs, hlen with
  | [y0, y1, y2, y3, y4], _ =>
    match cs, hl with
    | [c0, c1, c2, c3, c4], _ =>
      have h0 : DataW.trod enc Tryz.prog w 0 (fun _ => true) true n 9 (List.take (Tryz.prog.cellsOf 9) (List.drop 0 [c0, c1, c2, c3, c4])) = some y0 := hf 0 _ rfl
      have h1 : DataW.trod enc Tryz.prog w 0 (fun _ => true) true n 9 (List.take (Tryz.prog.cellsOf 9) (List.drop 1 [c0, c1, c2, c3, c4])) = some y1 := hf 1 _ rfl
      have h2 : DataW.trod enc Tryz.prog w 0 (fun _ => true) true n 4 (List.take (Tryz.prog.cellsOf 4) (List.drop 2 [c0, c1, c2, c3, c4])) = some y2 := hf 2 _ rfl
      have h3 : DataW.trod enc Tryz.prog w 0 (fun _ => true) true n 9 (List.take (Tryz.prog.cellsOf 9) (List.drop 3 [c0, c1, c2, c3, c4])) = some y3 := hf 3 _ rfl
      have h4 : DataW.trod enc Tryz.prog w 0 (fun _ => true) true n 9 (List.take (Tryz.prog.cellsOf 9) (List.drop 4 [c0, c1, c2, c3, c4])) = some y4 := hf 4 _ rfl
      rw [cellsOfS] at h0 h1 h3 h4
      rw [cellsOfB] at h2
      obtain ⟨s0, e0, r0, _⟩ := DataW.trod_string Tryz.underlying9 (x := y0) h0
      obtain ⟨s1, e1, r1, _⟩ := DataW.trod_string Tryz.underlying9 (x := y1) h1
      obtain ⟨b2, e2, _⟩ := DataW.trod_bool Tryz.underlying4 (x := y2) h2
      obtain ⟨s3, e3, r3, _⟩ := DataW.trod_string Tryz.underlying9 (x := y3) h3
      obtain ⟨s4, e4, r4, _⟩ := DataW.trod_string Tryz.underlying9 (x := y4) h4
      cases e0
      cases e1
      cases e2
      cases e3
      cases e4
      simp only [inReach, List.map_cons, List.map_nil, DataW.weights, Tryz.underlying59, DataW.weightsEach, List.all_append, Bool.and_eq_true] at hr
      have q0 := hr.1
      have q1 := hr.2.1
      have q3 := hr.2.2.2.1
      have q4 := hr.2.2.2.2.1
      rw [r0] at q0
      rw [r1] at q1
      rw [r3] at q3
      rw [r4] at q4
      exact ⟨⟨s0, s1, b2, s3, s4⟩, rfl, str_reach (H := H) q3, str_reach (H := H) q0, str_reach (H := H) q1, str_reach (H := H) q4⟩
theorem open_files {fuel : Nat} {v : Value} {x : DataW H × List MemPlace} (h : DataW.trod enc Tryz.prog w 0 (fun _ => true) true fuel 22 [v] = some x) (hr : inReach (x.1.weights Tryz.prog 22)) :
    ∃ fs, FilesV w v fs ∧ FsOK fs := by
  rcases open_slice Tryz.underlying22 h with ⟨e, rfl⟩ | ⟨a, len, cap, m, n, D, Pl, e, _, hl, hm, hmm, rfl, hc⟩
  · cases e
    exact ⟨[], ⟨none, 0, rfl, .inl rfl⟩, ⟨by decide, by decide, fun a q => (by cases q), fun a q => (by cases q)⟩⟩
  · cases e
    have hmm : m = cap := by simpa using hmm
    subst hmm
    rw [cellsOfEn] at hc
    have hV : ∀ i, i < len → ∃ z : En, (w.cell? (a.add (i * 5)) = some (.string z.name) ∧ w.cell? ((a.add (i * 5)).add 1) = some (.string z.val) ∧ w.cell? ((a.add (i * 5)).add 2) = some (.bool z.file) ∧ w.cell? ((a.add (i * 5)).add 3) = some (.string z.fname) ∧ w.cell? ((a.add (i * 5)).add 4) = some (.string z.typ)) ∧ z.fname.size ≤ reachBytes ∧ z.name.size ≤ reachBytes ∧ z.val.size ≤ reachBytes ∧ z.typ.size ≤ reachBytes := fun i hi => by
      obtain ⟨cs', c1, c2⟩ := hc i (by omega)
      obtain ⟨z, rfl, z0⟩ := open_entry c2 (all_weights (reach_slice Tryz.underlying22 hr).2 (List.mem_map.2 ⟨i, List.mem_range.2 hi, rfl⟩))
      have := (World.cells?_some c1).2.2
      have q0 := this 0 (by omega)
      have q1 := this 1 (by omega)
      have q2 := this 2 (by omega)
      have q3 := this 3 (by omega)
      have q4 := this 4 (by omega)
      rw [show (a.add (i * 5)).add 0 = a.add (i * 5) by simp [Addr.add]] at q0
      exact ⟨z, ⟨q0, q1, q2, q3, q4⟩, z0⟩
    haveI : Inhabited En := ⟨⟨⟨#[]⟩, ⟨#[]⟩, false, ⟨#[]⟩, ⟨#[]⟩⟩⟩
    obtain ⟨f, hf⟩ := choose_lt hV
    refine ⟨(List.range len).map f, ⟨some a, m, by simp, ?_⟩, ?_, ?_, ?_, ?_⟩
    · by_cases h0 : len = 0
      · exact .inl (by rw [h0]; rfl)
      · have sp := addrS_none (hf 0 (by omega)).1.1
        have sp' : a.spot = none := by
          have : a.add (0 * 5) = a := by simp [Addr.add]
          rwa [this] at sp
        refine .inr ⟨a.block, a.off, addr_eta sp', fun i hi => ?_⟩
        have hi : i < len := by simpa using hi
        have := (hf i hi).1
        rw [add_plain sp', add_plain rfl, add_plain rfl, add_plain rfl, add_plain rfl] at this
        have e : ((List.range len).map f)[i]'(by simpa using hi) = f i := by simp
        rw [e]
        exact ⟨this.1, this.2.1, this.2.2.1, this.2.2.2.1, this.2.2.2.2⟩
    · have := (reach_slice Tryz.underlying22 hr).1
      rw [bytesOfEn, List.length_map, List.length_range, List.length_map, List.length_range] at this
      unfold reachBytes at this
      rw [List.length_map, List.length_range]
      omega
    · have := (reach_slice Tryz.underlying22 hr).1
      rw [bytesOfEn, List.length_map, List.length_range, List.length_map, List.length_range] at this
      unfold reachBytes at this
      rw [List.length_map, List.length_range]
      omega
    · intro y hy
      obtain ⟨i, hi, rfl⟩ := List.mem_map.1 hy
      have := (hf i (List.mem_range.1 hi)).2.1
      unfold reachBytes at this
      omega
    · intro y hy
      obtain ⟨i, hi, rfl⟩ := List.mem_map.1 hy
      have := (hf i (List.mem_range.1 hi)).2.2
      unfold reachBytes at this
      omega
set_option maxRecDepth 100000 in
theorem open_ctl {fuel : Nat} {cs : List Value} {x : DataW H × List MemPlace} (h : DataW.trod enc Tryz.prog w 0 (fun _ => true) true fuel 24 cs = some x) (hr : inReach (x.1.weights Tryz.prog 24)) :
    ∃ (c : Ct) (fv : Value), cs = ctCells c fv ∧ FilesV w fv c.files ∧ FsOK c.files ∧ c.custom.size ≤ 140737488355328 := by
  obtain ⟨xs, n, _, rfl, hl, hlen, hf⟩ := DataW.trod_struct Tryz.underlying24 h
  rw [cellsOfCt] at hl
  match xs, hlen with
  | [y0, y1, y2, y3, y4, y5, y6, y7, y8, y9], _ =>
    match cs, hl with
    | [c0, c1, c2, c3, c4, c5, c6, c7, c8, c9], _ =>
      have h0 : DataW.trod enc Tryz.prog w 0 (fun _ => true) true n 9 (List.take (Tryz.prog.cellsOf 9) (List.drop 0 [c0, c1, c2, c3, c4, c5, c6, c7, c8, c9])) = some y0 := hf 0 _ rfl
      have h1 : DataW.trod enc Tryz.prog w 0 (fun _ => true) true n 4 (List.take (Tryz.prog.cellsOf 4) (List.drop 1 [c0, c1, c2, c3, c4, c5, c6, c7, c8, c9])) = some y1 := hf 1 _ rfl
      have h2 : DataW.trod enc Tryz.prog w 0 (fun _ => true) true n 4 (List.take (Tryz.prog.cellsOf 4) (List.drop 2 [c0, c1, c2, c3, c4, c5, c6, c7, c8, c9])) = some y2 := hf 2 _ rfl
      have h3 : DataW.trod enc Tryz.prog w 0 (fun _ => true) true n 4 (List.take (Tryz.prog.cellsOf 4) (List.drop 3 [c0, c1, c2, c3, c4, c5, c6, c7, c8, c9])) = some y3 := hf 3 _ rfl
      have h4 : DataW.trod enc Tryz.prog w 0 (fun _ => true) true n 4 (List.take (Tryz.prog.cellsOf 4) (List.drop 4 [c0, c1, c2, c3, c4, c5, c6, c7, c8, c9])) = some y4 := hf 4 _ rfl
      have h5 : DataW.trod enc Tryz.prog w 0 (fun _ => true) true n 4 (List.take (Tryz.prog.cellsOf 4) (List.drop 5 [c0, c1, c2, c3, c4, c5, c6, c7, c8, c9])) = some y5 := hf 5 _ rfl
      have h6 : DataW.trod enc Tryz.prog w 0 (fun _ => true) true n 4 (List.take (Tryz.prog.cellsOf 4) (List.drop 6 [c0, c1, c2, c3, c4, c5, c6, c7, c8, c9])) = some y6 := hf 6 _ rfl
      have h7 : DataW.trod enc Tryz.prog w 0 (fun _ => true) true n 4 (List.take (Tryz.prog.cellsOf 4) (List.drop 7 [c0, c1, c2, c3, c4, c5, c6, c7, c8, c9])) = some y7 := hf 7 _ rfl
      have h8 : DataW.trod enc Tryz.prog w 0 (fun _ => true) true n 9 (List.take (Tryz.prog.cellsOf 9) (List.drop 8 [c0, c1, c2, c3, c4, c5, c6, c7, c8, c9])) = some y8 := hf 8 _ rfl
      have h9 : DataW.trod enc Tryz.prog w 0 (fun _ => true) true n 22 (List.take (Tryz.prog.cellsOf 22) (List.drop 9 [c0, c1, c2, c3, c4, c5, c6, c7, c8, c9])) = some y9 := hf 9 _ rfl
      rw [cellsOfS] at h0 h8
      rw [cellsOfB] at h1 h2 h3 h4 h5 h6 h7
      rw [cellsOfEs] at h9
      obtain ⟨s0, e0, _, _⟩ := DataW.trod_string Tryz.underlying9 (x := y0) h0
      obtain ⟨b1, e1, _⟩ := DataW.trod_bool Tryz.underlying4 (x := y1) h1
      obtain ⟨b2, e2, _⟩ := DataW.trod_bool Tryz.underlying4 (x := y2) h2
      obtain ⟨b3, e3, _⟩ := DataW.trod_bool Tryz.underlying4 (x := y3) h3
      obtain ⟨b4, e4, _⟩ := DataW.trod_bool Tryz.underlying4 (x := y4) h4
      obtain ⟨b5, e5, _⟩ := DataW.trod_bool Tryz.underlying4 (x := y5) h5
      obtain ⟨b6, e6, _⟩ := DataW.trod_bool Tryz.underlying4 (x := y6) h6
      obtain ⟨b7, e7, _⟩ := DataW.trod_bool Tryz.underlying4 (x := y7) h7
      obtain ⟨s8, e8, r8, _⟩ := DataW.trod_string Tryz.underlying9 (x := y8) h8
      cases e0
      cases e1
      cases e2
      cases e3
      cases e4
      cases e5
      cases e6
      cases e7
      cases e8
      simp only [inReach, List.map_cons, List.map_nil, DataW.weights, Tryz.underlying24, DataW.weightsEach, List.all_append, Bool.and_eq_true] at hr
      obtain ⟨fs, f1, f2⟩ := open_files (x := y9) h9 hr.2.2.2.2.2.2.2.2.2.1
      have q8 := hr.2.2.2.2.2.2.2.2.1
      rw [r8] at q8
      have q9 := str_reach (H := H) q8
      exact ⟨⟨s0, b1, b2, b3, b4, b5, b6, b7, s8, fs⟩, c9, rfl, f1, f2, (show s8.size ≤ 140737488355328 by unfold reachBytes at q9; omega)⟩
set_option maxRecDepth 100000 in
theorem open_item {fuel : Nat} {cs : List Value} {x : DataW H × List MemPlace} (h : DataW.trod enc Tryz.prog w 0 (fun _ => true) true fuel 27 cs = some x) (hr : inReach (x.1.weights Tryz.prog 27)) :
    ∃ (k : Int) (c : Ct) (fv v : Value) (ax : List (ByteArray × ByteArray)), cs = .int .i64 k :: (ctCells c fv ++ [v]) ∧ FilesV w fv c.files ∧ FsOK c.files ∧ c.custom.size ≤ 140737488355328 ∧ AttrsV w v ax ∧ ax.length ≤ 4398046511104 := by
  obtain ⟨y0, y1, y2, n, rfl, hl, h0, h1, h2⟩ : ∃ (y0 y1 y2 : DataW H × List MemPlace) (n : Nat), x = (.agg [y0.1, y1.1, y2.1], y0.2 ++ (y1.2 ++ (y2.2 ++ []))) ∧ cs.length = 12 ∧
      DataW.trod enc Tryz.prog w 0 (fun _ => true) true n 3 (List.take (Tryz.prog.cellsOf 3) (List.drop 0 cs)) = some y0 ∧
      DataW.trod enc Tryz.prog w 0 (fun _ => true) true n 24 (List.take (Tryz.prog.cellsOf 24) (List.drop 1 cs)) = some y1 ∧
      DataW.trod enc Tryz.prog w 0 (fun _ => true) true n 25 (List.take (Tryz.prog.cellsOf 25) (List.drop 11 cs)) = some y2 := by
    obtain ⟨xs, n, _, rfl, hl, hlen, hf⟩ := DataW.trod_struct Tryz.underlying27 h
    rw [cellsOfIt] at hl
    match xs, hlen with
    | [y0, y1, y2], _ => exact ⟨y0, y1, y2, n, by simp, hl, hf 0 _ rfl, hf 1 _ rfl, hf 2 _ rfl⟩
  match cs, hl with
  | [c0, d0, d1, d2, d3, d4, d5, d6, d7, d8, d9, c2], _ =>
    rw [cellsOfI'] at h0
    rw [cellsOfCt] at h1
    rw [cellsOfAs] at h2
    obtain ⟨k, e0, _⟩ := DataW.trod_int Tryz.underlying3 (x := y0) h0
    cases e0
    simp only [inReach, List.map_cons, List.map_nil, DataW.weights, Tryz.underlying27, DataW.weightsEach, List.all_append, Bool.and_eq_true] at hr
    obtain ⟨c, fv, ec, f1, f2, f3⟩ := open_ctl (x := y1) h1 hr.2.1
    obtain ⟨ax, a1, _, a3, _⟩ := open_attrs (x := y2) h2 hr.2.2.1
    refine ⟨k, c, fv, c2, ax, ?_, f1, f2, f3, a1, a3⟩
    have ec : [d0, d1, d2, d3, d4, d5, d6, d7, d8, d9] = ctCells c fv := ec
    rw [← ec]; rfl
end

end Go.Proofs.YtfjfkkbgkjmghaaGreatDoor
