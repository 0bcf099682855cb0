/- TextStrip: for every text the call returns true, and the text reads afterwards as it read before: blanks at the ends are left out as the document's answer has it, and only they. The two tables of unicode/utf8 that the road names read as the program's text lays them (the card ties them). -/
import Derived.Test.YtgfbcooeilodmaaDoorStripWalks
import Derived.Test.YtgfbcooeilodmaaDoorLong
import Derived.Test.YtgfbcooeilodmaaDoorCards
import Derived.Test.YtgfbcooeilodmaaDoorTie
import Derived.LaidMore
import Derived.Lay
import Derived.SevenTiedAt
import Derived.Stop.Joined
namespace Go.Proofs.YtgfbcooeilodmaaDoor
open Go.ChangeShapes Go.WideShapes Go.ChangeAt Go.RowKit
open Go.ChangeMaps (open_string shut_string)

namespace textStrip
theorem first_A : stripS ⟨#[32, 97, 32]⟩ = ⟨#[97]⟩ := by decide +kernel
theorem wide (s : ByteArray) : stripS ((⟨#[9]⟩ : ByteArray) ++ s ++ (⟨#[10, 32]⟩ : ByteArray)) = stripS s := by
  have e : ((⟨#[9]⟩ : ByteArray) ++ s ++ (⟨#[10, 32]⟩ : ByteArray)).data.toList = ((9 :: s.data.toList) ++ [10]) ++ [32] := by simp
  unfold stripS
  rw [e, stripL_snoc (by decide), stripL_snoc (by decide), stripL_cons (by decide)]
theorem wide_size (s : ByteArray) : ((⟨#[9]⟩ : ByteArray) ++ s ++ (⟨#[10, 32]⟩ : ByteArray)).size = s.size + 3 := by
  simp [ByteArray.size_append]; show 1 + s.size + 2 = _; omega

set_option maxHeartbeats 400000 in
theorem walk (a0 : ByteArray) (_w0 : a0.size ≤ maxLen) (w : World) :
    Calls Tryd.prog 4 #[.string a0] w fun e w' => e = .returned (.bool true) ∧ Below w.heap.size w w' := by
  have hA := fun w => strip_any ⟨#[32, 97, 32]⟩ w (by decide)
  rw [first_A] at hA
  have HA := hide hA
  clear hA
  have l1 := stripS_size a0
  have E1 := hide (stripS_stripS a0)
  have E2 := hide (wide a0)
  have E3 := hide (wide_size a0)
  by_cases ha : (65536 : Int) < (a0.size : Int)
  · go_enter Tryd.func4, Tryd.ntmps4
    go_wp2_with fail
    refine (HA.out _).mono ?_
    rintro e v1 ⟨rfl, b1⟩
    go_wp2_with fail
    refine (long_any a0 _).mono ?_
    rintro e u1 ⟨rfl, rfl⟩
    go_wp2_with fail
    go_ret
    exact ⟨rfl, b1⟩
  · go_enter Tryd.func4, Tryd.ntmps4
    go_wp2_with fail
    refine (HA.out _).mono ?_
    rintro e v1 ⟨rfl, b1⟩
    go_wp2_with fail
    refine (long_any a0 _).mono ?_
    rintro e u1 ⟨rfl, rfl⟩
    go_wp2_with fail
    refine (strip_any a0 _ (by omega)).mono ?_
    rintro e v2 ⟨rfl, b2⟩
    go_wp2_with fail
    refine (refStrip_any a0 _ (by omega)).mono ?_
    rintro e v3 ⟨rfl, b3⟩
    go_wp2_with fail
    refine (strip_any (stripS a0) _ (by omega)).mono ?_
    rintro e v4 ⟨rfl, b4⟩
    rw [E1.out]
    go_wp2_with fail
    refine (strip_any _ _ ?hsz).mono ?_
    case hsz => rw [E3.out]; omega
    rintro e v5 ⟨rfl, b5⟩
    rw [E2.out]
    go_wp2_with fail
    go_ret
    exact ⟨rfl, (chain b1 (chain b2 (chain b3 (chain b4 b5))))⟩

theorem own : ownKnob Tryd.prog.godebug = none := by kernel_rfl

set_option maxRecDepth 100000 in
theorem lifted (os : Os) (started : os.Started) (H : Type) (enc : TypeId × Value → H) :
    ReturnsInHanded {} Tryd.checked os 4 .any (fun w args => (Rows.textStripSpec.pre enc Tryd.prog Tryd.f4 [] false w args ∧ laidMetH Tryd.prog Rows.textStripRow.laid w) ∧ sizedMet enc Tryd.prog Tryd.f4 (OpenSpec.ofChange Rows.textStripSpec) false w args)
      (Rows.textStripSpec.post enc Tryd.prog Tryd.f4 false true false false) := by
  refine returnsInHanded_of_change_and (C := Tryd.checked) (X := fun w _ => laidMetH Tryd.prog Rows.textStripRow.laid w) (fun _ _ _ hh h => h.of_heap hh) own started (by kernel_rfl) Tryd.func4
    (ChangeSpec.witness_shaped (enc := enc) (C := Tryd.checked) (os := os) (X := fun w _ => laidMetH Tryd.prog Rows.textStripRow.laid w) false (World.laidAll Tryd.prog os Rows.textStripRow.laid) #[.string ByteArray.empty] 8 (World.laidAll_os _ _ _)
      (World.shaped_of_ZipB (by kernel_rfl) (by kernel_rfl)) (by kernel_rfl) (by kernel_rfl) (by kernel_rfl)
      (by rw [MakeChecks.laidMetH_plain _ _ _ (by kernel_rfl)]; exact laidMet_laidAll _ (by kernel_rfl) (by kernel_rfl))) ?_
  intro W base args ds gs before hval0 hW _ _ hL _
  have hval : ∀ (j : Nat) t v, Tryd.f4.params[j]? = some t → args[j]? = some v → Value.okWide Tryd.prog W .any base t v := hval0
  have hW' := hW
  obtain ⟨p, q, hA0, hV, rfl, _, _⟩ := hW
  have hA : DataW.TrodAll enc Tryd.prog W 0 (fun _ => true) true Tryd.f4.params.toList args.toList ds p := hA0
  rw [Tryd.params4] at hA hval
  obtain ⟨v0, vs0, d0, ds0, p0, q0, hargs, rfl, rfl, h0, r0⟩ := trodAll_cons hA
  obtain ⟨rfl, rfl, rfl⟩ := trodAll_nil r0
  obtain rfl : args = #[v0] := by cases args; simp_all
  obtain ⟨rfl, rfl⟩ := trodVars_none hV
  obtain ⟨a0, rfl, rfl, rfl, w0⟩ := open_string Tryd.underlying9 (hval 0 9 v0 rfl rfl) h0
  clear hA0 hval0
  refine (walk a0 w0 W).mono fun e W' ⟨he, bel⟩ => ?_
  subst he
  exact ⟨_, rfl, _, _, _, [], _, [], hW', trodAll_mk1 (shut_bool Tryd.underlying4 _), (trodAll_cons_mk (shut_string Tryd.underlying9 w0) trodAll_mk0), rfl, bel.frame _, fun h => by cases h⟩

theorem over : Rows.textStripRow.holds Tryd.pinned (OpenSpec.ofChange Rows.textStripSpec) :=
  OpenClaim.holds_of_wide 4 Tryd.f4 rfl rfl rfl rfl rfl rfl rfl ⟨rfl, rfl, rfl, rfl, rfl⟩ rfl rfl rfl rfl rfl (by kernel_rfl) Tryd.func4 (by kernel_rfl)
    (of_decide_eq_true (by kernel_rfl)) (by unfold Func.isWrapper; first | (rw [if_pos (by decide +kernel)]; kernel_rfl) | (rw [if_neg (by decide +kernel)]; exact ⟨rfl, rfl⟩))
    (fun os started H enc _ => lifted os started H enc)

theorem card : Rows.TextStripCardSaid :=
  Claim7.holds_tied_plain_at .later [] [.data, .pinned] true (true, "05dd7b6834db600077eb060517c355d11edac86e9094a2160b4f6b023aed6caf") false over (fun _ h => by cases h) (by kernel_rfl) (fun _ h => by cases h) textStrip_row_tie rfl ⟨rfl, rfl⟩ (by kernel_rfl) rfl
    (fun f fn hf hfn => by
      obtain rfl : f = 4 := Option.some.inj ((show Tryd.prog.funcNamed Rows.textStripRow.func = some 4 by kernel_rfl).symm.trans hf) |>.symm
      obtain rfl : fn = Tryd.f4 := (Option.some.inj (Tryd.func4.symm.trans hfn)).symm
      exact ⟨by kernel_rfl, fun j t ht => by
        rw [Tryd.params4] at ht
        have hm : t ∈ [9] := by simpa using Array.mem_of_getElem? ht
        have hall : ([9].all fun u => !Tryd.prog.wantsStandIn u) = true := by kernel_rfl
        exact (show Tryd.prog.wantsStandIn t = false by simpa using List.all_eq_true.1 hall t hm)⟩)
    (by kernel_rfl)
end textStrip

theorem textStrip_holds : Rows.TextStripCardSaid := textStrip.card
#print axioms textStrip_holds
end Go.Proofs.YtgfbcooeilodmaaDoor
