/- What a control has, and how it changes, as functions of kinds, attributes and texts. The program's Reset, Write, Type, Changed, Retype of layer 14. -/
import Derived.Test.YtfjfkkbgkjmghaaGreatDoorJct33

namespace Go.Proofs.YtfjfkkbgkjmghaaGreatDoor
open Go.RowKit
def resetP (k : Int) (c : Ct) (ax : List (ByteArray × ByteArray)) (text t : ByteArray) : Ct := { startP k ax text t with mixed := c.mixed, custom := c.custom }
end Go.Proofs.YtfjfkkbgkjmghaaGreatDoor

namespace Go.Proofs.YtfjfkkbgkjmghaaGreatDoor
open Go.RowKit
set_option maxRecDepth 100000
set_option maxHeartbeats 8000000 in
theorem ctReset_raw (k : Int) (C : Ct) (fv : Value) (v : Value) (ax : List (ByteArray × ByteArray)) (w : World) (hf : FilesV w fv C.files) (hv : AttrsV w v ax) (hz : AxOK ax) (text t : ByteArray) (ht : ClnIs k ax (srcS k ax text) t) (hs : text.size ≤ 100000) (hcu : C.custom.size ≤ 140737488355328) (hT : CtTabs w) :
    Calls Tryz.prog 22 #[.int .i64 k, ctV C fv, v, .string text] w fun e w' => e = .returned (ctV (resetP k C ax text t) (.slice none 0 0)) ∧ Below w.heap.size w w' := by
  have HS := hide (fun W (hb : Below w.heap.size w W) => ctStart_raw k v ax W (hv.below hb) hz text t ht hs (hT.below hb))
  have HC := hide (fun W => clone_any C.custom W (by omega))
  have ER := hide (show resetP k C ax text t = { startP k ax text t with mixed := C.mixed, custom := C.custom } from rfl)
  rw [ER.out]
  have hsf := ctStart_nil k ax text t
  generalize startP k ax text t = SP at *
  obtain ⟨a0, a1, a2, a3, a4, a5, a6, a7, a8, a9⟩ := SP
  obtain rfl : a9 = [] := hsf
  clear ER ht hs hcu hT hz
  unfold ctV ctCells at HS
  obtain ⟨p, c, rfl, _⟩ := hv
  obtain ⟨fp, fc, rfl, _⟩ := hf
  obtain ⟨c0, c1, c2, c3, c4, c5, c6, c7, c8, c9⟩ := C
  unfold ctV ctCells
  have B0 : Hid (Below w.heap.size w ((w.alloc (.cells #[.string c0, .bool c1, .bool c2, .bool c3, .bool c4, .bool c5, .bool c6, .bool c7, .string c8, .slice fp c9.length fc] 24)).alloc (.cells #[.string ⟨#[]⟩, .bool false, .bool false, .bool false, .bool false, .bool false, .bool false, .bool false, .string ⟨#[]⟩, .slice none 0 0] 24))) := ((Below.refl _ w).alloc (Nat.le_refl _) _).alloc ((Below.refl _ w).alloc (Nat.le_refl _) (.cells #[.string c0, .bool c1, .bool c2, .bool c3, .bool c4, .bool c5, .bool c6, .bool c7, .string c8, .slice fp c9.length fc] 24)).size _
  have NP := hide ((Bk.new w [.string c0, .bool c1, .bool c2, .bool c3, .bool c4, .bool c5, .bool c6, .bool c7, .string c8, .slice fp c9.length fc] 24).below ((Below.refl _ (w.alloc (.cells #[.string c0, .bool c1, .bool c2, .bool c3, .bool c4, .bool c5, .bool c6, .bool c7, .string c8, .slice fp c9.length fc] 24))).alloc (Nat.le_refl _) (.cells #[.string ⟨#[]⟩, .bool false, .bool false, .bool false, .bool false, .bool false, .bool false, .bool false, .string ⟨#[]⟩, .slice none 0 0] 24)))
  have NR0 := hide (Bk.new (w.alloc (.cells #[.string c0, .bool c1, .bool c2, .bool c3, .bool c4, .bool c5, .bool c6, .bool c7, .string c8, .slice fp c9.length fc] 24)) [.string ⟨#[]⟩, .bool false, .bool false, .bool false, .bool false, .bool false, .bool false, .bool false, .string ⟨#[]⟩, .slice none 0 0] 24)
  have NR : Hid (Bk ((w.alloc (.cells #[.string c0, .bool c1, .bool c2, .bool c3, .bool c4, .bool c5, .bool c6, .bool c7, .string c8, .slice fp c9.length fc] 24)).alloc (.cells #[.string ⟨#[]⟩, .bool false, .bool false, .bool false, .bool false, .bool false, .bool false, .bool false, .string ⟨#[]⟩, .slice none 0 0] 24)) (w.heap.size + 1) [.string ⟨#[]⟩, .bool false, .bool false, .bool false, .bool false, .bool false, .bool false, .bool false, .string ⟨#[]⟩, .slice none 0 0] 24) := by
    have e : (w.alloc (.cells #[.string c0, .bool c1, .bool c2, .bool c3, .bool c4, .bool c5, .bool c6, .bool c7, .string c8, .slice fp c9.length fc] 24)).heap.size = w.heap.size + 1 := by simp
    rw [e] at NR0; exact NR0
  clear NR0
  go_enter Tryz.func22, Tryz.ntmps22
  go_upto_region 1 with fail
  generalize (w.alloc (.cells #[.string c0, .bool c1, .bool c2, .bool c3, .bool c4, .bool c5, .bool c6, .bool c7, .string c8, .slice fp c9.length fc] 24)).alloc (.cells #[.string ⟨#[]⟩, .bool false, .bool false, .bool false, .bool false, .bool false, .bool false, .bool false, .string ⟨#[]⟩, .slice none 0 0] 24) = w0 at *
  have l0 : w.heap.size + 1 < w0.heap.size := NR.out.lt
  have p0 := NP.out.cell 0 rfl
  have p1 := NP.out.cell 1 rfl
  have p2 := NP.out.cell 2 rfl
  have p3 := NP.out.cell 3 rfl
  have p4 := NP.out.cell 4 rfl
  have p5 := NP.out.cell 5 rfl
  have p6 := NP.out.cell 6 rfl
  have p7 := NP.out.cell 7 rfl
  have p8 := NP.out.cell 8 rfl
  have p9 := NP.out.cell 9 rfl
  go_wp2_with fail
  refine (HS.out _ B0.out).mono ?_
  rintro e w1 ⟨rfl, b1⟩
  have B1 := hide (chain B0.out b1)
  replace NR := hide (NR.out.below b1)
  replace NP := hide (NP.out.below b1)
  have l1 : w0.heap.size ≤ w1.heap.size := b1.size
  clear p0 p1 p2 p3 p4 p5 p6 p7 p8 p9 b1 B0
  have AL : Hid (Below w1.heap.size w1 (w1.alloc (.cells #[.string a0, .bool a1, .bool a2, .bool a3, .bool a4, .bool a5, .bool a6, .bool a7, .string a8, .slice none 0 0] 24))) := (Below.refl _ w1).alloc (Nat.le_refl _) _
  have NO := hide (Bk.new w1 [.string a0, .bool a1, .bool a2, .bool a3, .bool a4, .bool a5, .bool a6, .bool a7, .string a8, .slice none 0 0] 24)
  go_upto_region 2 with fail
  generalize w1.alloc (.cells #[.string a0, .bool a1, .bool a2, .bool a3, .bool a4, .bool a5, .bool a6, .bool a7, .string a8, .slice none 0 0] 24) = w2 at *
  replace NR := hide (NR.out.below AL.out)
  replace NP := hide (NP.out.below AL.out)
  have B2 := hide (chain B1.out AL.out)
  have n1 : w.heap.size + 1 ≠ w1.heap.size := by omega
  have n2 : w1.heap.size ≠ w.heap.size + 1 := by omega
  have n3 : w.heap.size ≠ w1.heap.size := by omega
  have n4 : w1.heap.size ≠ w.heap.size := by omega
  clear B1 AL
  have p0 := NP.out.cell 0 rfl
  have p1 := NP.out.cell 1 rfl
  have p2 := NP.out.cell 2 rfl
  have p3 := NP.out.cell 3 rfl
  have p4 := NP.out.cell 4 rfl
  have p5 := NP.out.cell 5 rfl
  have p6 := NP.out.cell 6 rfl
  have p7 := NP.out.cell 7 rfl
  have p8 := NP.out.cell 8 rfl
  have p9 := NP.out.cell 9 rfl
  have k0 := NO.out.cell 0 rfl
  have k1 := NO.out.cell 1 rfl
  have k2 := NO.out.cell 2 rfl
  have k3 := NO.out.cell 3 rfl
  have k4 := NO.out.cell 4 rfl
  have k5 := NO.out.cell 5 rfl
  have k6 := NO.out.cell 6 rfl
  have k7 := NO.out.cell 7 rfl
  have k8 := NO.out.cell 8 rfl
  have k9 := NO.out.cell 9 rfl
  have g0 := NO.out.free 0
  have g1 := NO.out.free 1
  have g2 := NO.out.free 2
  have g3 := NO.out.free 3
  have g4 := NO.out.free 4
  have g5 := NO.out.free 5
  have g6 := NO.out.free 6
  have g7 := NO.out.free 7
  have g8 := NO.out.free 8
  have g9 := NO.out.free 9
  go_upto_region 3 with fail
  have LE1 : Hid (w.heap.size ≤ w1.heap.size) := by show _ ≤ _; omega
  have B3 : Hid (Below w.heap.size w (w2.setCell ⟨w1.heap.size, 5, none⟩ (.bool c5))) := B2.out.setCell LE1.out _
  have NP3 : Hid (Bk (w2.setCell ⟨w1.heap.size, 5, none⟩ (.bool c5)) w.heap.size [.string c0, .bool c1, .bool c2, .bool c3, .bool c4, .bool c5, .bool c6, .bool c7, .string c8, .slice fp c9.length fc] 24) := NP.out.other n4 _ _
  have NR3 : Hid (Bk (w2.setCell ⟨w1.heap.size, 5, none⟩ (.bool c5)) (w.heap.size + 1) [.string ⟨#[]⟩, .bool false, .bool false, .bool false, .bool false, .bool false, .bool false, .bool false, .string ⟨#[]⟩, .slice none 0 0] 24) := NR.out.other n2 _ _
  have NO3 := hide (NO.out.set 5 (.bool c5))
  clear p0 p1 p2 p3 p4 p5 p6 p7 p8 p9 k0 k1 k2 k3 k4 k5 k6 k7 k8 k9 g0 g1 g2 g3 g4 g5 g6 g7 g8 g9 NP NR NO B2
  generalize w2.setCell ⟨w1.heap.size, 5, none⟩ (.bool c5) = w3 at *
  have p8 := NP3.out.cell 8 rfl
  go_wp2_with fail
  refine (HC.out _).mono ?_
  rintro e w4 ⟨rfl, b4⟩
  replace NR := hide (NR3.out.below b4)
  replace NO := hide (NO3.out.below b4)
  have B4 := hide (chain B3.out b4)
  clear b4 B3 NP3 NR3 NO3 p8
  have k0 := NO.out.cell 0 rfl
  have k1 := NO.out.cell 1 rfl
  have k2 := NO.out.cell 2 rfl
  have k3 := NO.out.cell 3 rfl
  have k4 := NO.out.cell 4 rfl
  have k5 := NO.out.cell 5 rfl
  have k6 := NO.out.cell 6 rfl
  have k7 := NO.out.cell 7 rfl
  have k8 := NO.out.cell 8 rfl
  have k9 := NO.out.cell 9 rfl
  have g0 := NO.out.free 0
  have g1 := NO.out.free 1
  have g2 := NO.out.free 2
  have g3 := NO.out.free 3
  have g4 := NO.out.free 4
  have g5 := NO.out.free 5
  have g6 := NO.out.free 6
  have g7 := NO.out.free 7
  have g8 := NO.out.free 8
  have g9 := NO.out.free 9
  have r0 := NR.out.cell 0 rfl
  have r1 := NR.out.cell 1 rfl
  have r2 := NR.out.cell 2 rfl
  have r3 := NR.out.cell 3 rfl
  have r4 := NR.out.cell 4 rfl
  have r5 := NR.out.cell 5 rfl
  have r6 := NR.out.cell 6 rfl
  have r7 := NR.out.cell 7 rfl
  have r8 := NR.out.cell 8 rfl
  have r9 := NR.out.cell 9 rfl
  have s0 := NR.out.free 0
  have s1 := NR.out.free 1
  have s2 := NR.out.free 2
  have s3 := NR.out.free 3
  have s4 := NR.out.free 4
  have s5 := NR.out.free 5
  have s6 := NR.out.free 6
  have s7 := NR.out.free 7
  have s8 := NR.out.free 8
  have s9 := NR.out.free 9
  go_wp2_with fail
  refine bodyPost_ret (v := .agg #[.string a0, .bool a1, .bool a2, .bool a3, .bool a4, .bool c5, .bool a6, .bool a7, .string c8, .slice none 0 0]) (by simp [results, go_sem, r0, r1, r2, r3, r4, r5, r6, r7, r8, r9]) rfl ?_
  exact ⟨rfl, low_set10 (Nat.le_succ _) (B4.out.setCell LE1.out _) _ _ _ _ _ _ _ _ _ _⟩
theorem ctReset_any (k : Int) (C : Ct) (fv v : Value) (ax : List (ByteArray × ByteArray)) (w : World) (hf : FilesV w fv C.files) (hv : AttrsV w v ax) (hz : AxOK ax) (text t : ByteArray) (ht : ClnIs k ax (srcS k ax text) t) (hs : text.size ≤ 100000) (hcu : C.custom.size ≤ 140737488355328) (hT : CtTabs w) :
    Calls Tryz.prog 22 #[.int .i64 k, ctV C fv, v, .string text] w fun e w' => ∃ fv', e = .returned (ctV (resetP k C ax text t) fv') ∧ FilesV w' fv' (resetP k C ax text t).files ∧ Below w.heap.size w w' :=
  (ctReset_raw k C fv v ax w hf hv hz text t ht hs hcu hT).mono fun e w' ⟨h, b⟩ => ⟨_, h, by rw [show (resetP k C ax text t).files = [] from ctStart_nil k ax text t]; exact files_nil _, b⟩

end Go.Proofs.YtfjfkkbgkjmghaaGreatDoor
