/- Stage 18's own 'one'. -/
import Derived.Test.YtdbabciafifnaaaGreatDoorJvb26

namespace Go.Proofs.YtdbabciafifnaaaGreatDoor
open Go.RowKit
set_option maxRecDepth 100000
def oneL (ax : List (ByteArray × ByteArray)) : List Nd := [⟨⟨#[104, 116, 109, 108]⟩, ⟨#[]⟩, [], -1, [1]⟩, ⟨⟨#[105, 110, 112, 117, 116]⟩, ⟨#[]⟩, ax, 0, []⟩]
def axA : List (ByteArray × ByteArray) := [(⟨#[114, 101, 113, 117, 105, 114, 101, 100]⟩, ⟨#[]⟩)]
def axB : List (ByteArray × ByteArray) := [(⟨#[114, 101, 113, 117, 105, 114, 101, 100]⟩, ⟨#[]⟩), (⟨#[100, 105, 115, 97, 98, 108, 101, 100]⟩, ⟨#[]⟩)]
def oneC : List Ct := [ct0, ct0]
def oneF : List Value := [.slice none 0 0, .slice none 0 0]
theorem one_made : madeCells (Value.agg #[.string ⟨#[]⟩, .bool false, .bool false, .bool false, .bool false, .bool false, .bool false, .bool false, .string ⟨#[]⟩, .slice none 0 0]).cells 20 = (cellsC oneC oneF).toArray := by kernel_rfl
theorem one_files (w : World) : FilesIn w oneC oneF := ⟨rfl, fun i hi => by
  match i, hi with
  | 0, _ => exact files_nil w
  | 1, _ => exact files_nil w⟩
theorem one_doc {w : World} {b1 b3 b4 : Nat} {av : Value} {ax : List (ByteArray × ByteArray)} (hv : AttrsV w av ax) (hk : CapOK av) (h1 : Bk w b1 [.int .i64 1] 3) (h3 : Bk w b3 [.string ⟨#[104, 116, 109, 108]⟩, .string ⟨#[]⟩, .slice none 0 0, .int .i64 (-1), .slice (some ⟨b1, 0, none⟩) 1 1, .string ⟨#[105, 110, 112, 117, 116]⟩, .string ⟨#[]⟩, av, .int .i64 0, .slice none 0 0] 38) (h4 : Bk w b4 (cellsC oneC oneF) 55) :
    DocV w (.slice (some ⟨b3, 0, none⟩) 2 2) (.slice (some ⟨b4, 0, none⟩) 2 2) (oneL ax) oneC := by
  refine ⟨⟨_, 2, rfl, .inr ⟨b3, 0, rfl, fun i hi => ?_⟩⟩, ⟨oneF, cts_bk h4 (one_files w)⟩⟩
  match i, hi with
  | 0, _ => exact ⟨_, _, ⟨h3.cell 0 rfl, h3.cell 1 rfl, h3.cell 2 rfl, h3.cell 3 rfl, h3.cell 4 rfl, attrs_nilO w, ⟨_, 1, rfl, .inr ⟨b1, 0, rfl, fun j hj => by
      obtain rfl : j = 0 := by have : j < 1 := hj; omega
      exact h1.cell 0 rfl⟩⟩, cap_nilO⟩⟩
  | 1, _ => exact ⟨_, _, ⟨h3.cell 5 rfl, h3.cell 6 rfl, h3.cell 7 rfl, h3.cell 8 rfl, h3.cell 9 rfl, hv, ints_nil w, hk⟩⟩
/-- The world of 'one': its blocks one behind the other. -/
theorem one_world (w : World) (u1 u2 av : Value) : Bk ((((w.alloc (.cells #[u1, u2] 28)).alloc (.cells #[.int .i64 1] 3)).alloc (.cells #[.string ⟨#[104, 116, 109, 108]⟩, .string ⟨#[]⟩, .slice none 0 0, .int .i64 (-1), .slice (some ⟨w.heap.size + 1, 0, none⟩) 1 1, .string ⟨#[105, 110, 112, 117, 116]⟩, .string ⟨#[]⟩, av, .int .i64 0, .slice none 0 0] 38)).alloc (.cells (cellsC oneC oneF).toArray 55)) w.heap.size [u1, u2] 28 ∧ Bk ((((w.alloc (.cells #[u1, u2] 28)).alloc (.cells #[.int .i64 1] 3)).alloc (.cells #[.string ⟨#[104, 116, 109, 108]⟩, .string ⟨#[]⟩, .slice none 0 0, .int .i64 (-1), .slice (some ⟨w.heap.size + 1, 0, none⟩) 1 1, .string ⟨#[105, 110, 112, 117, 116]⟩, .string ⟨#[]⟩, av, .int .i64 0, .slice none 0 0] 38)).alloc (.cells (cellsC oneC oneF).toArray 55)) (w.heap.size + 1) [.int .i64 1] 3 ∧ Bk ((((w.alloc (.cells #[u1, u2] 28)).alloc (.cells #[.int .i64 1] 3)).alloc (.cells #[.string ⟨#[104, 116, 109, 108]⟩, .string ⟨#[]⟩, .slice none 0 0, .int .i64 (-1), .slice (some ⟨w.heap.size + 1, 0, none⟩) 1 1, .string ⟨#[105, 110, 112, 117, 116]⟩, .string ⟨#[]⟩, av, .int .i64 0, .slice none 0 0] 38)).alloc (.cells (cellsC oneC oneF).toArray 55)) (w.heap.size + 1 + 1) [.string ⟨#[104, 116, 109, 108]⟩, .string ⟨#[]⟩, .slice none 0 0, .int .i64 (-1), .slice (some ⟨w.heap.size + 1, 0, none⟩) 1 1, .string ⟨#[105, 110, 112, 117, 116]⟩, .string ⟨#[]⟩, av, .int .i64 0, .slice none 0 0] 38 ∧ Bk ((((w.alloc (.cells #[u1, u2] 28)).alloc (.cells #[.int .i64 1] 3)).alloc (.cells #[.string ⟨#[104, 116, 109, 108]⟩, .string ⟨#[]⟩, .slice none 0 0, .int .i64 (-1), .slice (some ⟨w.heap.size + 1, 0, none⟩) 1 1, .string ⟨#[105, 110, 112, 117, 116]⟩, .string ⟨#[]⟩, av, .int .i64 0, .slice none 0 0] 38)).alloc (.cells (cellsC oneC oneF).toArray 55)) (w.heap.size + 1 + 1 + 1) (cellsC oneC oneF) 55 ∧ Below w.heap.size w ((((w.alloc (.cells #[u1, u2] 28)).alloc (.cells #[.int .i64 1] 3)).alloc (.cells #[.string ⟨#[104, 116, 109, 108]⟩, .string ⟨#[]⟩, .slice none 0 0, .int .i64 (-1), .slice (some ⟨w.heap.size + 1, 0, none⟩) 1 1, .string ⟨#[105, 110, 112, 117, 116]⟩, .string ⟨#[]⟩, av, .int .i64 0, .slice none 0 0] 38)).alloc (.cells (cellsC oneC oneF).toArray 55)) := by
  have s1 : (w.alloc (.cells #[u1, u2] 28)).heap.size = w.heap.size + 1 := bk_next rfl
  have s2 : ((w.alloc (.cells #[u1, u2] 28)).alloc (.cells #[.int .i64 1] 3)).heap.size = w.heap.size + 1 + 1 := bk_next s1
  have s3 : (((w.alloc (.cells #[u1, u2] 28)).alloc (.cells #[.int .i64 1] 3)).alloc (.cells #[.string ⟨#[104, 116, 109, 108]⟩, .string ⟨#[]⟩, .slice none 0 0, .int .i64 (-1), .slice (some ⟨w.heap.size + 1, 0, none⟩) 1 1, .string ⟨#[105, 110, 112, 117, 116]⟩, .string ⟨#[]⟩, av, .int .i64 0, .slice none 0 0] 38)).heap.size = w.heap.size + 1 + 1 + 1 := bk_next s2
  have k1 : Bk (w.alloc (.cells #[u1, u2] 28)) w.heap.size [u1, u2] 28 := Bk.at' rfl
  have k2 : Bk ((w.alloc (.cells #[u1, u2] 28)).alloc (.cells #[.int .i64 1] 3)) (w.heap.size + 1) [.int .i64 1] 3 := Bk.at' s1
  have k3 : Bk (((w.alloc (.cells #[u1, u2] 28)).alloc (.cells #[.int .i64 1] 3)).alloc (.cells #[.string ⟨#[104, 116, 109, 108]⟩, .string ⟨#[]⟩, .slice none 0 0, .int .i64 (-1), .slice (some ⟨w.heap.size + 1, 0, none⟩) 1 1, .string ⟨#[105, 110, 112, 117, 116]⟩, .string ⟨#[]⟩, av, .int .i64 0, .slice none 0 0] 38)) (w.heap.size + 1 + 1) [.string ⟨#[104, 116, 109, 108]⟩, .string ⟨#[]⟩, .slice none 0 0, .int .i64 (-1), .slice (some ⟨w.heap.size + 1, 0, none⟩) 1 1, .string ⟨#[105, 110, 112, 117, 116]⟩, .string ⟨#[]⟩, av, .int .i64 0, .slice none 0 0] 38 := Bk.at' s2
  have k4 : Bk ((((w.alloc (.cells #[u1, u2] 28)).alloc (.cells #[.int .i64 1] 3)).alloc (.cells #[.string ⟨#[104, 116, 109, 108]⟩, .string ⟨#[]⟩, .slice none 0 0, .int .i64 (-1), .slice (some ⟨w.heap.size + 1, 0, none⟩) 1 1, .string ⟨#[105, 110, 112, 117, 116]⟩, .string ⟨#[]⟩, av, .int .i64 0, .slice none 0 0] 38)).alloc (.cells (cellsC oneC oneF).toArray 55)) (w.heap.size + 1 + 1 + 1) (cellsC oneC oneF) 55 := Bk.at' s3
  have b1 : Below w.heap.size w (w.alloc (.cells #[u1, u2] 28)) := (Below.refl _ _).alloc (Nat.le_refl _) _
  have b2 : Below (w.alloc (.cells #[u1, u2] 28)).heap.size (w.alloc (.cells #[u1, u2] 28)) ((w.alloc (.cells #[u1, u2] 28)).alloc (.cells #[.int .i64 1] 3)) := (Below.refl _ _).alloc (Nat.le_refl _) _
  have b3 : Below ((w.alloc (.cells #[u1, u2] 28)).alloc (.cells #[.int .i64 1] 3)).heap.size ((w.alloc (.cells #[u1, u2] 28)).alloc (.cells #[.int .i64 1] 3)) (((w.alloc (.cells #[u1, u2] 28)).alloc (.cells #[.int .i64 1] 3)).alloc (.cells #[.string ⟨#[104, 116, 109, 108]⟩, .string ⟨#[]⟩, .slice none 0 0, .int .i64 (-1), .slice (some ⟨w.heap.size + 1, 0, none⟩) 1 1, .string ⟨#[105, 110, 112, 117, 116]⟩, .string ⟨#[]⟩, av, .int .i64 0, .slice none 0 0] 38)) := (Below.refl _ _).alloc (Nat.le_refl _) _
  have b4 : Below (((w.alloc (.cells #[u1, u2] 28)).alloc (.cells #[.int .i64 1] 3)).alloc (.cells #[.string ⟨#[104, 116, 109, 108]⟩, .string ⟨#[]⟩, .slice none 0 0, .int .i64 (-1), .slice (some ⟨w.heap.size + 1, 0, none⟩) 1 1, .string ⟨#[105, 110, 112, 117, 116]⟩, .string ⟨#[]⟩, av, .int .i64 0, .slice none 0 0] 38)).heap.size (((w.alloc (.cells #[u1, u2] 28)).alloc (.cells #[.int .i64 1] 3)).alloc (.cells #[.string ⟨#[104, 116, 109, 108]⟩, .string ⟨#[]⟩, .slice none 0 0, .int .i64 (-1), .slice (some ⟨w.heap.size + 1, 0, none⟩) 1 1, .string ⟨#[105, 110, 112, 117, 116]⟩, .string ⟨#[]⟩, av, .int .i64 0, .slice none 0 0] 38)) ((((w.alloc (.cells #[u1, u2] 28)).alloc (.cells #[.int .i64 1] 3)).alloc (.cells #[.string ⟨#[104, 116, 109, 108]⟩, .string ⟨#[]⟩, .slice none 0 0, .int .i64 (-1), .slice (some ⟨w.heap.size + 1, 0, none⟩) 1 1, .string ⟨#[105, 110, 112, 117, 116]⟩, .string ⟨#[]⟩, av, .int .i64 0, .slice none 0 0] 38)).alloc (.cells (cellsC oneC oneF).toArray 55)) := (Below.refl _ _).alloc (Nat.le_refl _) _
  exact ⟨((k1.below b2).below b3).below b4, (k2.below b3).below b4, k3.below b4, k4, chain (chain (chain b1 b2) b3) b4⟩
set_option maxHeartbeats 8000000 in
theorem vaOne_any (av : Value) (ax : List (ByteArray × ByteArray)) (w : World) (hv : AttrsV w av ax) (hk : CapOK av) :
    Calls Tryz.prog 8 #[av] w fun e w' => ∃ nv cv, e = .returned (.agg #[nv, cv]) ∧ DocV w' nv cv (oneL ax) oneC ∧ Below w.heap.size w w' := by
  obtain ⟨iC, hI0, hI1, hI2, hI3⟩ := info_parts infoC
  have MK : ∀ W : World, (Instr.makeSlice 26 (.int .i64 2) (.int .i64 2)).run Tryz.prog W = .ok (.slice (some ⟨W.heap.size, 0, none⟩) 2 2) (W.alloc (.cells (cellsC oneC oneF).toArray 55)) := fun W => by
    have := run_make (P := Tryz.prog) W 26 55 iC _ Tryz.underlying26 hI0 hI1 .i64 .i64 2 2 (by decide) (by decide) (by rw [hI3]; decide) (by decide)
    rw [hI2, show (2 : Int).toNat = 2 from rfl, show 2 * 10 = 20 from rfl, one_made] at this
    exact this
  have HV := hide hv
  have HK := hide hk
  obtain ⟨p, c, rfl, hxx⟩ := hv
  clear hxx
  have EW := hide (one_world w (.slice (some ⟨w.heap.size + 1 + 1, 0, none⟩) 2 2) (.slice (some ⟨w.heap.size + 1 + 1 + 1, 0, none⟩) 2 2) (.slice p ax.length c))
  clear hI0 hI1 hI2 hI3 hk
  go_enter Tryz.func8, Tryz.ntmps8
  go_wp2_with fail
  have r0 := EW.out.1.cell 0 rfl
  have r1 := EW.out.1.cell 1 rfl
  have HB := hide EW.out.2.2.2.2
  have HD := hide (one_doc (HV.out.below HB.out) HK.out EW.out.2.1 EW.out.2.2.1 EW.out.2.2.2.1)
  clear EW
  refine bodyPost_ret (v := .agg #[.slice (some ⟨w.heap.size + 1 + 1, 0, none⟩) 2 2, .slice (some ⟨w.heap.size + 1 + 1 + 1, 0, none⟩) 2 2]) (by simp [results, go_sem, r0, r1]) rfl ?_
  exact ⟨_, _, rfl, HD.out, HB.out⟩

end Go.Proofs.YtdbabciafifnaaaGreatDoor
